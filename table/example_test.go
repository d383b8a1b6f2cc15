package table_test

import (
	"fmt"

	"lectern/api"
	"lectern/table"
	"lectern/weight"
)

// The example of README.md.
func ExampleParse() {
	t, _, e := table.Parse("@version 1 # the first\n@unified 4E00..9FD5; FB40\n0041 ; [.1C47.0020.0008]\n0041 0301 ; [.1C47.0020.0008][.0000.0024.0002]\n")
	fmt.Println(t.Version, len(t.Ranges), e == api.OK)
	fmt.Println(table.Find(t, []rune{0x41, 0x301}))
	for codes, elements := range table.Each(t) {
		fmt.Println(codes, len(elements))
	}
	s, _ := table.Write(t)
	fmt.Print(s)
	x, _ := table.ReadLine("0042 ; [.1C60.0020.0008]")
	fmt.Println(table.Show(x.Codes), weight.Show(x.Elements[0]))
	t.Entries = append(t.Entries, x, x)
	at, e := table.Check(t)
	fmt.Println(at, e == api.ErrTwin)
	_, line, e := table.Parse("@version 1\n0041 [.1C47.0020.0008]")
	fmt.Println(line, e == api.ErrLine)
	// Output:
	// 1 1 true
	// 1 true
	// 0041 1
	// 0041 0301 2
	// @version 1
	// @unified 4E00..9FD5; FB40
	// 0041 ; [.1C47.0020.0008]
	// 0041 0301 ; [.1C47.0020.0008][.0000.0024.0002]
	// 0042 [.1C60.0020.0008]
	// 3 true
	// 2 true
}
