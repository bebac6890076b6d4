package event_test

import (
	"math"
	"slices"
	"strings"
	"testing"

	"lammastide/api"
	"lammastide/event"
)

const fullText = "fair|The Fair|2000-01-05|3|weekly 2 mo,we count 9|2000-01-17|2000-01-19>2000-01-20,2000-01-31>2000-01-05"

// fullEvent is well, and has something in every field; new memory each time.
func fullEvent() api.Event {
	return api.Event{
		ID: "fair", Title: "The Fair", Start: 4, Long: 3,
		Rule:  api.Rule{Freq: "weekly", Every: 2, Days: []int{0, 2}, Count: 9, Until: -1},
		Skips: []int{16},
		Moves: []api.Move{{From: 18, To: 19}, {From: 30, To: 4}},
	}
}

// onceText has as little as an event may have.
const onceText = "a|Fair|2000-01-08|1|once||"

func onceEvent() api.Event {
	return api.Event{ID: "a", Title: "Fair", Start: 7, Long: 1, Rule: api.Rule{Freq: "once", Every: 1, Until: -1}}
}

func changed(change func(e *api.Event)) api.Event {
	e := fullEvent()
	change(&e)
	return e
}

func isSame(a, b api.Event) bool {
	return a.ID == b.ID && a.Title == b.Title && a.Start == b.Start && a.Long == b.Long &&
		a.Rule.Freq == b.Rule.Freq && a.Rule.Every == b.Rule.Every && a.Rule.Count == b.Rule.Count && a.Rule.Until == b.Rule.Until &&
		slices.Equal(a.Rule.Days, b.Rule.Days) && slices.Equal(a.Skips, b.Skips) && slices.Equal(a.Moves, b.Moves)
}

func upTo(n int) []int {
	var list []int
	for k := range n {
		list = append(list, k)
	}
	return list
}

func movesOf(first, n, to int) []api.Move {
	var list []api.Move
	for k := range n {
		list = append(list, api.Move{From: first + k, To: to})
	}
	return list
}

func TestCheckTakesEdges(t *testing.T) {
	for i, e := range []api.Event{
		fullEvent(),
		onceEvent(),
		changed(func(e *api.Event) { e.ID = "a" }),
		changed(func(e *api.Event) { e.ID = "0" }),
		changed(func(e *api.Event) { e.ID = "az09az09az09" }),
		changed(func(e *api.Event) { e.Title = "" }),
		changed(func(e *api.Event) { e.Title = strings.Repeat("x", api.MaxTitle) }),
		changed(func(e *api.Event) { e.Title = " ,>{}~" }),
		changed(func(e *api.Event) { e.Start = 0 }),
		changed(func(e *api.Event) { e.Start = api.MaxDay }),
		changed(func(e *api.Event) { e.Long = 1 }),
		changed(func(e *api.Event) { e.Long = api.MaxLong }),
		changed(func(e *api.Event) { e.Skips, e.Moves = nil, nil }),
		changed(func(e *api.Event) { e.Skips, e.Moves, e.Rule.Days = []int{}, []api.Move{}, []int{} }),
		changed(func(e *api.Event) { e.Skips = upTo(api.MaxSkips - 2) }),
		changed(func(e *api.Event) { e.Skips, e.Moves = upTo(api.MaxSkips), movesOf(20, api.MaxSkips, 0) }),
		changed(func(e *api.Event) { e.Skips = []int{0, api.MaxDay} }),
		changed(func(e *api.Event) { e.Moves = []api.Move{{From: 0, To: api.MaxDay}, {From: api.MaxDay, To: 0}} }),
		changed(func(e *api.Event) { e.Moves = []api.Move{{From: 5, To: 5}, {From: 6, To: 5}, {From: 7, To: 16}} }),
	} {
		if err := event.Check(e); err != nil {
			t.Errorf("%d: Check(%v) = %v", i, e, err)
		}
		if event.Text(e) == "" {
			t.Errorf("%d: %v has no text", i, e)
		}
	}
}

// refuses: all calls that tell Check's errors tell this one itself, and nothing beside it.
func refuses(t *testing.T, e api.Event, want error) {
	t.Helper()
	if err := event.Check(e); err != want {
		t.Errorf("Check(%v) = %v; want %v", e, err, want)
	}
	if s := event.Text(e); s != "" {
		t.Errorf("Text(%v) = %q; want it empty", e, s)
	}
	if list, err := event.Days(e, 0, 100); len(list) > 0 || err != want {
		t.Errorf("Days(%v) = %v, %v; want %v", e, list, err, want)
	}
	for _, d := range []int{0, 4, 5, 19, api.MaxDay} {
		if event.Covers(e, d) {
			t.Errorf("Covers(%v, %d)", e, d)
		}
	}
}

func TestCheckNames(t *testing.T) {
	refuses(t, api.Event{}, api.ErrName)
	for _, id := range []string{"", "A", "aZ", "a b", " ", "a-b", "a_b", "a.b", "|", "a|", "a\n", "a\x00", "\xff", "ä", "thirteenchars", "`", "{", "/", ":", strings.Repeat("a", 5000)} {
		refuses(t, changed(func(e *api.Event) { e.ID = id }), api.ErrName)
	}
}

func TestCheckTitles(t *testing.T) {
	for _, title := range []string{"|", "a|b", "\x1f", "\x00", "\n", "a\tb", "\x7f", "\x80", "\xff", "ä", strings.Repeat("x", api.MaxTitle+1), strings.Repeat("x", 5000)} {
		refuses(t, changed(func(e *api.Event) { e.Title = title }), api.ErrText)
	}
}

func TestCheckBounds(t *testing.T) {
	for _, n := range []int{-1, api.MaxDay + 1, math.MinInt, math.MaxInt} {
		refuses(t, changed(func(e *api.Event) { e.Start = n }), api.ErrBound)
		refuses(t, changed(func(e *api.Event) { e.Skips = []int{n} }), api.ErrBound)
		refuses(t, changed(func(e *api.Event) { e.Moves = []api.Move{{From: n, To: 1}} }), api.ErrBound)
		refuses(t, changed(func(e *api.Event) { e.Moves = []api.Move{{From: 1, To: n}} }), api.ErrBound)
		refuses(t, changed(func(e *api.Event) { e.Moves[1].To = n }), api.ErrBound)
	}
	for _, n := range []int{0, -1, api.MaxLong + 1, math.MinInt, math.MaxInt} {
		refuses(t, changed(func(e *api.Event) { e.Long = n }), api.ErrBound)
	}
	refuses(t, changed(func(e *api.Event) { e.Skips = []int{-1, 16} }), api.ErrBound)
	refuses(t, changed(func(e *api.Event) { e.Skips = []int{16, api.MaxDay + 1} }), api.ErrBound)
}

func TestCheckRules(t *testing.T) {
	refuses(t, changed(func(e *api.Event) { e.Rule.Freq = "hourly" }), api.ErrName)
	refuses(t, changed(func(e *api.Event) { e.Rule = api.Rule{} }), api.ErrName)
	refuses(t, changed(func(e *api.Event) { e.Rule.Every = 0 }), api.ErrBound)
	refuses(t, changed(func(e *api.Event) { e.Rule.Until = 5 }), api.ErrShape)
	refuses(t, changed(func(e *api.Event) { e.Rule.Days = []int{2, 0} }), api.ErrOrder)
}

func TestCheckLists(t *testing.T) {
	refuses(t, changed(func(e *api.Event) { e.Skips = upTo(api.MaxSkips + 1) }), api.ErrFull)
	refuses(t, changed(func(e *api.Event) { e.Skips = make([]int, 5000) }), api.ErrFull)
	refuses(t, changed(func(e *api.Event) { e.Moves = movesOf(20, api.MaxSkips+1, 0) }), api.ErrFull)
	for _, skips := range [][]int{{5, 5}, {5, 4}, {1, 3, 2}, {1, 2, 2}, {api.MaxDay, 0}} {
		refuses(t, changed(func(e *api.Event) { e.Skips = skips }), api.ErrOrder)
	}
	for _, froms := range [][]int{{5, 5}, {5, 4}, {1, 3, 2}, {1, 2, 2}, {api.MaxDay, 0}} {
		var moves []api.Move
		for i, d := range froms {
			moves = append(moves, api.Move{From: d, To: 100 + i})
		}
		refuses(t, changed(func(e *api.Event) { e.Moves = moves }), api.ErrOrder)
	}
	for _, d := range []int{18, 30} {
		refuses(t, changed(func(e *api.Event) { e.Skips = []int{d} }), api.ErrExist)
	}
	refuses(t, changed(func(e *api.Event) { e.Skips = []int{0, 1, 30, 40} }), api.ErrExist)
}

// TestCheckTellsTheFirst: an event that has all faults, mended one by one.
func TestCheckTellsTheFirst(t *testing.T) {
	e := api.Event{ID: "A", Title: "|", Start: -1, Long: 0, Rule: api.Rule{Freq: "hourly"}, Skips: make([]int, 21), Moves: make([]api.Move, 21)}
	for _, step := range []struct {
		want error
		mend func()
	}{
		{api.ErrName, func() { e.ID = "a" }},
		{api.ErrText, func() { e.Title = "" }},
		{api.ErrBound, func() { e.Start = 0 }},
		{api.ErrBound, func() { e.Long = 1 }},
		{api.ErrName, func() { e.Rule = api.Rule{Freq: "weekly", Every: 1, Days: []int{1, 0}, Until: -1} }},
		{api.ErrOrder, func() { e.Rule.Days = nil }},
		{api.ErrFull, func() { e.Skips = []int{api.MaxDay + 1, -1} }},
		{api.ErrFull, func() { e.Moves = []api.Move{{From: 7, To: -1}, {From: -1, To: 0}} }},
		{api.ErrOrder, func() { e.Skips = []int{-1, 7} }},
		{api.ErrOrder, func() { e.Moves = []api.Move{{From: -1, To: 0}, {From: 7, To: -1}} }},
		{api.ErrBound, func() { e.Skips = []int{7} }},
		{api.ErrBound, func() { e.Moves[0].From = 0 }},
		{api.ErrBound, func() { e.Moves[1].To = 0 }},
		{api.ErrExist, func() { e.Skips = []int{6} }},
		{nil, func() {}},
	} {
		if err := event.Check(e); err != step.want {
			t.Errorf("Check(%v) = %v; want %v", e, err, step.want)
		}
		step.mend()
	}
}

func TestCheckReadsNoFurther(t *testing.T) {
	e := fullEvent()
	skips, moves := []int{16, 3, -1}, []api.Move{{From: 18, To: 19}, {From: -5, To: -5}}
	e.Skips, e.Moves = skips[:1], moves[:1]
	if err := event.Check(e); err != nil {
		t.Error(err)
	}
	if !slices.Equal(skips, []int{16, 3, -1}) || !slices.Equal(moves, []api.Move{{From: 18, To: 19}, {From: -5, To: -5}}) {
		t.Error(skips, moves)
	}
}
