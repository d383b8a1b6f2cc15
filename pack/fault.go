package pack

import "lectern/api"

// fault is why bytes are no table; it goes no further than caught.
type fault api.Errno

// must throws e unless it holds: only for what is caught.
func must(holds bool, e api.Errno) {
	if !holds {
		panic(fault(e))
	}
}

// caught does what throws, and tells its answer or the error.
func caught[T any](do func() T) (out T, e api.Errno) {
	defer func() {
		switch thrown := recover().(type) {
		case nil:
		case fault:
			e = api.Errno(thrown)
		default:
			panic(thrown)
		}
	}()
	return do(), api.OK
}
