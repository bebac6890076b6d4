package merge

import (
	"cmp"
	"slices"
	"strings"

	"lammastide/api"
	"lammastide/event"
)

const (
	skipsField = "skips"
	movesField = "moves"
	partGap    = "|" // of an event's text
)

// goal of a day that is moved; its zero value: it is not.
type goal struct {
	to int
	is bool
}

// oneOf three: what both ways have, or what one of them made of base; false: they went apart.
func oneOf[T comparable](base, a, b T) (T, bool) {
	switch {
	case a == b, b == base:
		return a, true
	case a == base:
		return b, true
	}
	var none T
	return none, false
}

// rising: what one of two lists has, each once.
func rising[T cmp.Ordered](a, b []T) []T {
	all := slices.Concat(a, b)
	slices.Sort(all)
	return slices.Compact(all)
}

// joinFields of an event that all three have: its text, or the fields that clash.
// A text, not an event that is set field by field: on the way it might not be well.
func joinFields(base, a, b api.Event) (string, []string) {
	parts := []string{base.ID}
	var clashes []string
	for _, field := range event.Fields() {
		text, is := joinField(field, base, a, b)
		if !is {
			clashes = append(clashes, field)
		}
		parts = append(parts, text)
	}
	if len(clashes) > 0 {
		return "", clashes
	}
	return strings.Join(parts, partGap), nil
}

func joinField(field string, base, a, b api.Event) (string, bool) {
	text, is := oneOf(event.Get(base, field), event.Get(a, field), event.Get(b, field))
	if is {
		return text, true
	}
	switch field {
	case skipsField:
		skips := joinSkips(base.Skips, a.Skips, b.Skips)
		return event.Get(api.Event{Skips: skips}, field), true
	case movesField:
		moves, is := joinMoves(base.Moves, a.Moves, b.Moves)
		return event.Get(api.Event{Moves: moves}, field), is
	}
	return "", false
}

// joinSkips day by day. They never clash: of three answers to whether a day is skipped two are alike.
func joinSkips(base, a, b []int) []int {
	return slices.DeleteFunc(rising(a, b), func(d int) bool {
		is, _ := oneOf(slices.Contains(base, d), slices.Contains(a, d), slices.Contains(b, d))
		return !is
	})
}

// joinMoves From by From; false: one of them clashes.
func joinMoves(base, a, b []api.Move) ([]api.Move, bool) {
	inBase, inA, inB := goalsOf(base), goalsOf(a), goalsOf(b)
	var moves []api.Move
	for _, from := range rising(fromsOf(a), fromsOf(b)) {
		one, is := oneOf(inBase[from], inA[from], inB[from])
		if !is {
			return nil, false
		}
		if one.is {
			moves = append(moves, api.Move{From: from, To: one.to})
		}
	}
	return moves, true
}

func goalsOf(moves []api.Move) map[int]goal {
	goals := map[int]goal{}
	for _, m := range moves {
		goals[m.From] = goal{to: m.To, is: true}
	}
	return goals
}

func fromsOf(moves []api.Move) []int {
	var froms []int
	for _, m := range moves {
		froms = append(froms, m.From)
	}
	return froms
}
