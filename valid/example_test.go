package valid_test

import (
	"fmt"

	"lectern/api"
	"lectern/norms"
	"lectern/valid"
	"lectern/weight"
)

// The example of README.md.
func ExampleCheck() {
	n, _ := norms.Load(norms.Small())
	s := valid.Small()
	_, e := valid.Check(n, s)
	fmt.Println(len(s.Entries), e == api.OK)
	fmt.Println(weight.Show(valid.Top(s)))
	s.Entries = append(s.Entries, api.Entry{Codes: []rune("q\u0323\u0301"), Elements: []api.Element{{P: 0x611, S: 0x20, T: 2}}})
	at, e := valid.Check(n, s)
	fmt.Println(at, e == api.ErrPrefix)
	s.Entries[101].Codes = []rune{0xE9}
	at, e = valid.Check(n, s)
	fmt.Println(at, e == api.ErrNormal)
	sorted := valid.Sort(s)
	fmt.Println(valid.Same(sorted, s), sorted.Entries[1].Codes[0] == ' ')
	// Output:
	// 101 true
	// [*0818.0110.001F]
	// 101 true
	// 101 true
	// false true
}
