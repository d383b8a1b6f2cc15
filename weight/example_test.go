package weight_test

import (
	"fmt"

	"lectern/api"
	"lectern/weight"
)

// The example of README.md.
func ExampleImplicit() {
	e := api.Element{P: 0x1C47, S: 0x20, T: 2}
	fmt.Println(weight.Check(e) == api.OK, weight.Level(e))
	fmt.Println(weight.Show(e))
	e, long, _ := weight.Read("[.0000.0024.0002] behind it")
	fmt.Println(weight.Show(e), weight.Level(e), long)
	_, _, err := weight.Read("[.1C47.0000.0002]")
	fmt.Println(err == api.ErrWeight)
	fmt.Println(weight.Compare(e, api.Element{P: 1, S: 1, T: 1}))
	l := weight.Unified()
	fmt.Println(weight.Ranges(l) == api.OK)
	for _, e := range weight.Implicit(0x4E00, l) {
		fmt.Println(weight.Show(e))
	}
	// Output:
	// true 1
	// [.1C47.0020.0002]
	// [.0000.0024.0002] 2 17
	// true
	// -1
	// true
	// [.FB40.0020.0002]
	// [.CE00.0000.0000]
}
