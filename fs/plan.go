package fs

import (
	"maps"
	"slices"

	"lectern/api"
)

// ownPlan copies p, with Fail and Full sorted: each operation looks for its number there.
func ownPlan(p api.Plan) api.Plan {
	p.Keep = slices.Clone(p.Keep)
	p.Fail = slices.Sorted(slices.Values(p.Fail))
	p.Full = slices.Sorted(slices.Values(p.Full))
	return p
}

// begin counts an operation, and answers the errors of P1.2 that come ahead of its own.
func (f *FS) begin() api.Errno {
	if f.Dead() {
		return api.ErrDead
	}
	n := int(f.ops.Add(1))
	if n == f.plan.Crash {
		f.die()
		return api.ErrDead
	}
	if _, fails := slices.BinarySearch(f.plan.Fail, n); fails {
		return api.ErrIO
	}
	return api.OK
}

// isFull tells whether there is no room at the operation that is under way.
func (f *FS) isFull() bool {
	_, full := slices.BinarySearch(f.plan.Full, f.Ops())
	return full
}

// lacksRoom tells whether n bytes more are too many. None are never: Used may be above Room from the start.
func (f *FS) lacksRoom(n int) bool {
	return f.plan.Room > 0 && n > 0 && n > f.plan.Room-f.Used()
}

// die leaves what survives (P1.6), all of it safe.
func (f *FS) die() {
	next := inTurn(f.plan.Keep)
	f.settle(survivors(next(), len(f.moves)))
	for _, x := range f.safe.inOrder() {
		x.settle(next)
		x.data = copied(x.safe)
	}
	f.dir = maps.Clone(f.safe)
	f.dead = true
}

// inTurn hands out the numbers of keep, from the first again behind the last; of none 0.
func inTurn(keep []int) func() int {
	at := 0
	return func() int {
		if len(keep) == 0 {
			return 0
		}
		k := keep[at%len(keep)]
		at++
		return k
	}
}

// all is a number by which everything survives.
const all = -1

// survivors tells how many of n moves or bytes survive by the number k.
func survivors(k, n int) int {
	if k < 0 {
		return n
	}
	return k % (n + 1)
}
