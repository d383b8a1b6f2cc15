package key

import "lectern/api"

// noKey is thrown where bytes are no key; it goes no further than caught.
type noKey struct{}

// must throws unless it holds: only for what is caught.
func must(holds bool) {
	if !holds {
		panic(noKey{})
	}
}

// caught does what throws, and tells its answer or the error.
func caught(do func() parts) (out parts, e api.Errno) {
	defer func() {
		switch thrown := recover().(type) {
		case nil:
		case noKey:
			e = api.ErrSort
		default:
			panic(thrown)
		}
	}()
	return do(), api.OK
}
