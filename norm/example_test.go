package norm_test

import (
	"fmt"

	"lectern/api"
	"lectern/norm"
	"lectern/norms"
)

// The example of README.md.
func ExampleNFD() {
	n, _ := norms.Load(norms.Small())
	l, e := norm.NFD(n, []rune{0x61, 0x302, 0x323})
	fmt.Printf("%x %v\n", l, e == api.OK)
	s, _ := norm.Text(n, "\u1ead")
	fmt.Printf("%+q %v\n", s, norm.Is(n, []rune(s)))
	same, _ := norm.Same(n, "\u1ead", "\u00e2\u0323")
	c, _ := norm.Compare(n, "\u00e9", "f")
	fmt.Println(same, c)
	for p := range norm.Parts(n, []rune{0x1EAD, 'b', 0xE9}) {
		fmt.Printf("%x\n", p)
	}
	_, e = norm.Text(n, "\xff")
	fmt.Println(e == api.ErrUTF)
	// Output:
	// [61 323 302] true
	// "a\u0323\u0302" true
	// true -1
	// [61 323 302]
	// [62]
	// [65 301]
	// true
}

// The example of README.md.
func ExampleStream() {
	n, _ := norms.Load(norms.Small())
	st := norm.New(n)
	for _, r := range []rune{0x61, 0x302, 0x323} {
		st.Push(r)
	}
	fmt.Println(st.Held())
	l, _ := st.Push(0x62)
	fmt.Printf("%x\n%x\n", l, st.End())
	// Output:
	// 3
	// [61 323 302]
	// [62]
}
