package crc_test

import (
	"fmt"

	"lectern/api"
	"lectern/crc"
)

// The example of README.md.
func ExampleTable() {
	t := crc.New()
	sum := t.Sum([]byte("123456789"))
	fmt.Printf("%08X %v\n", sum, t.Extend(t.Sum([]byte("1234")), []byte("56789")) == sum)
	one, e := t.Frame([]byte("abc"))
	two, _ := t.Frame([]byte("xy"))
	b := append(one, two...)
	payload, long, _ := t.Unframe(b)
	fmt.Println(e == api.OK, string(payload), long)
	for at, payload := range t.Each(b) {
		fmt.Println(at, string(payload))
	}
	b[5]++
	_, _, e = t.Unframe(b)
	fmt.Println(e == api.ErrSum)
	// Output:
	// E3069283 true
	// true abc 8
	// 0 abc
	// 8 xy
	// true
}
