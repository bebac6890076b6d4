package event

import (
	"cmp"
	"iter"
	"slices"

	"lammastide/api"
	"lammastide/expand"
)

// daysUpTo gives, of an event that is known to be well, each of its days up to a last one: not in order, some of them twice, and a few behind it.
func daysUpTo(e api.Event, last int) iter.Seq[int] {
	return func(yield func(int) bool) {
		// A day from far behind may be moved ahead.
		if n := len(e.Moves); n > 0 {
			last = max(last, e.Moves[n-1].From)
		}
		for d := range expand.Days(e.Start, e.Rule) {
			if d > last {
				return
			}
			if _, skipped := slices.BinarySearch(e.Skips, d); skipped {
				continue
			}
			if !yield(movedTo(e.Moves, d)) {
				return
			}
		}
	}
}

// movedTo: where a day is now; itself, if it was not moved.
func movedTo(moves []api.Move, d int) int {
	at, moved := slices.BinarySearchFunc(moves, d, func(m api.Move, d int) int { return cmp.Compare(m.From, d) })
	if !moved {
		return d
	}
	return moves[at].To
}
