package elems_test

import (
	"fmt"

	"lectern/api"
	"lectern/elems"
	"lectern/norms"
	"lectern/pack"
	"lectern/valid"
	"lectern/weight"
)

// The example of README.md.
func ExamplePieces() {
	b, _, _ := pack.Make(norms.Small(), valid.Small())
	t, _ := pack.Load(b)
	l, e := elems.Pieces(t, []rune{0x3B1, 0x323, 0x301, 0x4E00})
	for _, p := range l {
		fmt.Println(p.At, len(p.Elements), p.Rule)
	}
	fmt.Println(e == api.OK)
	all, _ := elems.String(t, "\u03b1\u0323\u0301")
	fmt.Println(weight.Show(all[0]), weight.Show(all[1]))
	same, _ := elems.String(t, "\u03b1\u0301\u0323")
	fmt.Println(len(all), len(same), same[1] == all[1])
	for number, x := range elems.Each(t, "\u00e1b") {
		fmt.Println(number, weight.Show(x))
	}
	fmt.Println(elems.Most(t))
	_, e = elems.String(t, "\xff")
	_, long := elems.Of(t, make([]rune, api.MaxCodes+1))
	fmt.Println(e == api.ErrUTF, long == api.ErrLong)
	// Output:
	// [0 2] 1 false
	// [1] 1 false
	// [3] 2 true
	// true
	// [.0802.0020.0002] [.0000.0042.0002]
	// 2 2 true
	// 0 [.0510.0020.0002]
	// 1 [.0000.0024.0002]
	// 2 [.0520.0020.0002]
	// 3
	// true true
}
