package pack

import (
	"slices"

	"lectern/api"
	"lectern/codec"
	"lectern/crc"
)

// mark is what the bytes of all tables begin with.
const mark = "UCT1"

// write makes the bytes of data that norms loads and of a source that is well formed under them.
func write(data []byte, s api.Source) ([]byte, api.Errno) {
	out := slices.Concat([]byte(mark), field(data), field([]byte(s.Version)))
	out = addNumbers(out, len(s.Ranges))
	for _, x := range s.Ranges {
		out = addNumbers(out, int(x.From), int(x.To), x.Base, flag(x.Whole))
	}
	out = addNumbers(out, len(s.Entries))
	for _, x := range s.Entries {
		out = addEntry(out, x)
	}
	return crc.New().Frame(out)
}

func addEntry(out []byte, x api.Entry) []byte {
	out = addNumbers(out, len(x.Codes))
	for _, r := range x.Codes {
		out = addNumbers(out, int(r))
	}
	out = addNumbers(out, len(x.Elements))
	for _, e := range x.Elements {
		out = addNumbers(out, e.P, e.S, e.T, flag(e.Var))
	}
	return out
}

// field is for what is never too long: data have at most some 100,000 bytes, a version MaxVersion.
func field(f []byte) []byte {
	out, _ := codec.Field(f)
	return out
}

// addNumbers lays numbers behind out, none of which is below 0.
func addNumbers(out []byte, l ...int) []byte {
	for _, n := range l {
		out = append(out, codec.Uint(uint64(n))...)
	}
	return out
}

func flag(is bool) int {
	if is {
		return 1
	}
	return 0
}
