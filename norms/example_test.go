package norms_test

import (
	"fmt"

	"lectern/api"
	"lectern/norms"
)

// The example of README.md.
func ExampleNorms() {
	n, e := norms.Load(norms.Small())
	fmt.Println(e == api.OK, n.Class(0x301), n.Starter('a'))
	fmt.Printf("%x\n", n.Decomp(0x1EAD))
	fmt.Printf("%x\n", norms.Hangul(0xAC01))
	for d := range n.Decomps() {
		fmt.Printf("%x %x %x\n", d.Code, d.A, d.B)
		break
	}
	b, e := norms.Build([]api.Class{{From: 0x300, To: 0x314, Class: 230}}, []api.Decomp{{Code: 0xE9, A: 'e', B: 0x301}})
	fmt.Println(len(b), e == api.OK)
	_, e = norms.Build(nil, []api.Decomp{{Code: 0xE9, A: 0xE9}})
	fmt.Println(e == api.ErrDecomp)
	_, e = norms.Load(b[1:])
	fmt.Println(e == api.ErrNorms)
	// Output:
	// true 230 true
	// [61 323 302]
	// [1100 1161 11a8]
	// c0 41 300
	// 22 true
	// true
	// true
}
