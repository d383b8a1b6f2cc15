package utf_test

import (
	"fmt"

	"lectern/api"
	"lectern/utf"
)

// The example of README.md.
func ExampleEach() {
	l, _, e := utf.Decode("a€")
	fmt.Println(l[0] == 'a', l[1] == '€', e == api.OK)
	for at, r := range utf.Each("a€\xff") {
		fmt.Printf("%d %c\n", at, r)
	}
	at, e := utf.Check("a€\xff")
	fmt.Println(at, e == api.ErrUTF)
	r, long, _ := utf.Last("a€", 4)
	fmt.Println(string(r), long)
	s, _ := utf.Cut("a€", 3)
	n, _ := utf.Compare("z", "é")
	fmt.Println(s, n)
	_, at, e = utf.Encode([]rune{'a', 0xd800})
	fmt.Println(at, e == api.ErrRune)
	// Output:
	// true true true
	// 0 a
	// 1 €
	// 4 true
	// € 3
	// a -1
	// 1 true
}
