package trie_test

import (
	"fmt"

	"lectern/api"
	"lectern/trie"
)

// The example of README.md.
func ExampleTrie() {
	t, _, e := trie.New([]api.Entry{
		{Codes: []rune("a"), Elements: []api.Element{{P: 0x510, S: 0x20, T: 2}}},
		{Codes: []rune("ch"), Elements: []api.Element{{P: 0x531, S: 0x20, T: 2}}},
		{Codes: []rune("c"), Elements: []api.Element{{P: 0x530, S: 0x20, T: 2}}},
	})
	fmt.Println(t.Len(), e == api.OK)
	elements, is := t.Get([]rune("c"))
	fmt.Println(len(elements), is)
	long, elements := t.Longest([]rune("cha"))
	fmt.Printf("%d %x\n", long, elements[0].P)
	fmt.Println(t.Begins([]rune("c")), t.Asked())
	for number, x := range t.Each() {
		fmt.Println(number, string(x.Codes))
	}
	for x := range t.Under([]rune("c")) {
		fmt.Println(string(x.Codes))
	}
	_, at, e := trie.New([]api.Entry{{Codes: []rune("a")}, {Codes: []rune("a")}})
	fmt.Println(at, e == api.ErrTwin)
	// Output:
	// 3 true
	// 1 true
	// 2 531
	// true 2
	// 0 a
	// 2 c
	// 1 ch
	// c
	// ch
	// 1 true
}
