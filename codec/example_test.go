package codec_test

import (
	"fmt"

	"lectern/api"
	"lectern/codec"
)

// The example of README.md.
func ExampleReader() {
	name, e := codec.Field([]byte("abc"))
	b := append(codec.Uint(300), name...)
	r := codec.New(b)
	fmt.Println(e == api.OK, r.Uint(), string(r.Field()), r.Done() == api.OK)
	fmt.Println(r.Int(), r.Err() == api.ErrShort)
	// Output:
	// true 300 abc true
	// 0 true
}
