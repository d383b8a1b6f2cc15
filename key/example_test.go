package key_test

import (
	"bytes"
	"fmt"

	"lectern/api"
	"lectern/key"
	"lectern/norms"
	"lectern/pack"
	"lectern/valid"
)

// The example of README.md.
func ExampleKey() {
	data, _, _ := pack.Make(norms.Small(), valid.Small())
	t, _ := pack.Load(data)
	b, e := key.Key(t, "a", false)
	fmt.Printf("%x %t\n", b, e == api.OK)
	ab, _ := key.Key(t, "a-b", true)
	other, _ := key.Key(t, "ab", true)
	fmt.Println(bytes.Compare(ab, other))
	levels, codes, e := key.Levels(t, "a-b", true)
	fmt.Printf("%x %s %t\n", levels, string(codes), e == api.OK)
	same, e := key.Bytes(levels, codes)
	fmt.Println(bytes.Equal(ab, same), e == api.OK)
	one, _ := key.Key(t, "\u00e1", false)
	two, _ := key.Key(t, "a\u0301", false)
	s, e := key.Text(one, false)
	fmt.Println(bytes.Equal(one, two), s == "a\u0301", e == api.OK)
	for level, w := range key.Each(t, "a-", true) {
		fmt.Printf("%d: %x\n", level, w)
	}
	_, _, e = key.Read(b[1:], false)
	fmt.Println(e == api.ErrSort, key.Whole(b, false), key.Whole(b, true))
	// Output:
	// 051000000020000000020000000062000000 true
	// -1
	// [[510 520] [20 20] [2 2] [ffff 203 ffff]] a-b true
	// true true
	// true true true
	// 1: 510
	// 2: 20
	// 3: 2
	// 4: ffff
	// 4: 203
	// true true false
}
