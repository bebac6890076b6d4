package event

import (
	"slices"

	"lammastide/api"
)

func isTitle(s string) bool {
	for i := range len(s) {
		if s[i] < ' ' || s[i] > '~' || s[i] == partGap[0] {
			return false
		}
	}
	return len(s) <= api.MaxTitle
}

func isDay(n int) bool { return n >= 0 && n <= api.MaxDay }

func checkLists(skips []int, moves []api.Move) error {
	switch {
	case len(skips) > api.MaxSkips || len(moves) > api.MaxSkips:
		return api.ErrFull
	case !rises(skips) || !rises(fromsOf(moves)):
		return api.ErrOrder
	case slices.ContainsFunc(skips, func(d int) bool { return !isDay(d) }):
		return api.ErrBound
	case slices.ContainsFunc(moves, func(m api.Move) bool { return !isDay(m.From) || !isDay(m.To) }):
		return api.ErrBound
	case slices.ContainsFunc(moves, func(m api.Move) bool { return slices.Contains(skips, m.From) }):
		return api.ErrExist
	}
	return nil
}

func rises(list []int) bool {
	for i := 1; i < len(list); i++ {
		if list[i-1] >= list[i] {
			return false
		}
	}
	return true
}

func fromsOf(moves []api.Move) []int {
	var froms []int
	for _, m := range moves {
		froms = append(froms, m.From)
	}
	return froms
}
