package tailor_test

import (
	"fmt"

	"lectern/api"
	"lectern/norms"
	"lectern/tailor"
	"lectern/weight"
)

// The example of README.md.
func ExampleApply() {
	n, _ := norms.Load(norms.Small())
	t := api.Source{Version: "1", Ranges: weight.Unified(), Entries: []api.Entry{
		{Codes: []rune("a"), Elements: []api.Element{{P: 0x510, S: 0x20, T: 2}}},
		{Codes: []rune("b"), Elements: []api.Element{{P: 0x511, S: 0x20, T: 2}}},
	}}
	l, _, _ := tailor.Parse("&a < ch <<< Ch = '&'/b # as in some language\n&b << \\u00e9")
	s, _ := tailor.Write(l)
	fmt.Println(len(l), s)
	two, _, e := tailor.Apply(n, t, l, "2")
	fmt.Println(two.Version, len(two.Entries), e == api.OK)
	fmt.Println(weight.Show(tailor.Lookup(two, []rune("ch"))[0]), weight.Show(tailor.Lookup(two, []rune("b"))[0]))
	three, next, _ := tailor.Behind(two, two.Entries[0].Elements, 1)
	fmt.Println(weight.Show(next[0]), weight.Show(three.Entries[1].Elements[0]))
	_, at, e := tailor.Parse("&a <")
	fmt.Println(at, e == api.ErrRules)
	l[0].Text = []rune{0x7fff}
	_, at, e = tailor.Apply(n, t, l, "2")
	fmt.Println(at, e == api.ErrReset)
	// Output:
	// 6 &a<ch<<<Ch='&'/b&b<<é
	// 2 6 true
	// [.0511.0020.0002] [.0512.0020.0002]
	// [.0511.0020.0002] [.0513.0020.0002]
	// 4 true
	// 1 true
}
