package pack_test

import (
	"fmt"

	"lectern/api"
	"lectern/norms"
	"lectern/pack"
	"lectern/valid"
)

// The example of README.md.
func ExampleTable() {
	b, _, e := pack.Make(norms.Small(), valid.Small())
	fmt.Println(e == api.OK)
	t, e := pack.Load(b)
	fmt.Println(t.Version(), e == api.OK)
	fmt.Printf("%x %t\n", t.Id(), t.Id() == pack.Id(b))
	fmt.Println(t.Made())
	long, _ := t.Trie().Longest([]rune{0x3B1, 0x301, 'a'})
	fmt.Println(long, t.Made())
	s := t.Source()
	s.Version = "small-2"
	b, _, _ = pack.Make(norms.Small(), s)
	two, _ := pack.Load(b)
	fmt.Println(t.Same(two), t.Same(t))
	s.Entries[5].Elements[0].S = 0
	b, at, e := pack.Make(norms.Small(), s)
	fmt.Println(len(b), at, e == api.ErrWeight)
	_, e = pack.Load(two.Bytes()[1:])
	fmt.Println(e == api.ErrPack, pack.Check(nil) == api.ErrTable)
	// Output:
	// true
	// small-1 true
	// 9a28e109 true
	// 0
	// 2 1
	// false true
	// 0 5 true
	// true true
}
