package table

import (
	"cmp"
	"iter"
	"slices"
	"strings"
	"unicode"

	"lectern/api"
	"lectern/weight"
)

const lineEnd = "\r" // nothing, where it stands ahead of a newline or of the end

// reader reads a text into a table.
type reader struct {
	table api.Source
	ahead seen
	line  int // the number of the line that is read
}

// Parse: P8.5.
func Parse(s string) (api.Source, int, api.Errno) {
	if len(s) > api.MaxTableText {
		return api.Source{}, 0, api.ErrLong
	}
	r := reader{ahead: seen{}}
	if e := caught(func() { r.read(s) }); e != api.OK {
		return api.Source{}, r.line, e
	}
	return r.table, 0, api.OK
}

// lines tells the number of each line of which something is left that counts, and what is left.
func lines(s string) iter.Seq2[int, string] {
	return func(yield func(int, string) bool) {
		number := 0
		for line := range strings.SplitSeq(s, newline) {
			number++
			if left := leftOf(line); left != "" && !yield(number, left) {
				return
			}
		}
	}
}

func leftOf(line string) string {
	left, _, _ := strings.Cut(strings.TrimSuffix(line, lineEnd), comment)
	return trim(left)
}

// words are what reads the lines that begin with a mark, by the word behind it.
func words() map[string]func(*reader, string) {
	return map[string]func(*reader, string){
		versions: (*reader).version,
		wholes:   (*reader).whole,
		splits:   (*reader).split,
	}
}

// read reads all of a text, and throws what is wrong in a line, or, as of line 0, in the whole.
func (r *reader) read(s string) {
	known := words()
	for number, line := range lines(s) {
		r.line = number
		if rest, marked := strings.CutPrefix(line, mark); marked {
			word, rest := wordOf(rest)
			do := known[word]
			must(do != nil, api.ErrLine)
			do(r, rest)
			continue
		}
		r.entry(line)
	}
	r.line = 0
	r.finish()
}

// wordOf cuts a line behind its first word, which blanks have to end.
func wordOf(line string) (word, rest string) {
	end := strings.IndexAny(line, blanks)
	must(end >= 0, api.ErrLine)
	return line[:end], trimLeft(line[end:])
}

func (r *reader) version(s string) {
	must(r.table.Version == "" && !strings.ContainsAny(s, blanks), api.ErrLine)
	must(versionMayBe(s), api.ErrVersion)
	r.table.Version = strings.Clone(s) // which leaves the text alone
}

func (r *reader) whole(s string) { r.addRange(s, true) }

func (r *reader) split(s string) { r.addRange(s, false) }

// addRange reads a range and its base. Where the whole is of no such form, it doesn't matter how great a number is.
func (r *reader) addRange(s string, whole bool) {
	ends, base, _ := strings.Cut(s, divide)
	from, to, _ := strings.Cut(trim(ends), between)
	x := api.Implicit{From: codeOf(from), To: codeOf(to), Base: baseOf(trim(base)), Whole: whole}
	must(max(x.From, x.To) <= unicode.MaxRune, api.ErrSeq)
	r.table.Ranges = append(r.table.Ranges, x)
}

func (r *reader) entry(line string) {
	x := entryOf(line)
	must(!r.ahead.twin(x), api.ErrTwin)
	must(len(r.table.Entries) < api.MaxEntries, api.ErrLong)
	r.table.Entries = append(r.table.Entries, x)
}

// finish is for what only the whole text tells.
func (r *reader) finish() {
	must(r.table.Version != "", api.ErrVersion)
	slices.SortStableFunc(r.table.Ranges, func(a, b api.Implicit) int { return cmp.Compare(a.From, b.From) })
	e := weight.Ranges(r.table.Ranges)
	must(e == api.OK, e)
	r.table.Ranges, r.table.Entries = slices.Clip(r.table.Ranges), slices.Clip(r.table.Entries)
}
