package tailor

import "lectern/api"

// fault is why a text is no rules, or why a rule can't be followed; it goes no further than caught.
type fault api.Errno

// must throws e unless it holds: only for what is caught.
func must(holds bool, e api.Errno) {
	if !holds {
		panic(fault(e))
	}
}

// caught does what throws, and tells the error.
func caught(do func()) (e api.Errno) {
	defer func() {
		switch thrown := recover().(type) {
		case nil:
		case fault:
			e = api.Errno(thrown)
		default:
			panic(thrown)
		}
	}()
	do()
	return api.OK
}
