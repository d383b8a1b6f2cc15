package fs_test

import (
	"fmt"

	"lectern/api"
	"lectern/fs"
)

// The example of README.md.
func ExampleFS() {
	f := fs.New(api.Plan{Crash: 5})
	f.Create("a")
	f.Append("a", []byte("xy"))
	f.Sync("a")
	f.SyncDir()
	fmt.Println(f.Remove("a") == api.ErrDead)
	f.Start(api.Plan{})
	b, e := f.Read("a", 0, 2)
	fmt.Println(string(b), e == api.OK)
	// Output:
	// true
	// xy true
}
