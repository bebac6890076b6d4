package event_test

import (
	"math"
	"slices"
	"testing"

	"lammastide/api"
	"lammastide/event"
	"lammastide/expand"
)

func read(t *testing.T, s string) api.Event {
	t.Helper()
	e, err := event.Read(s)
	if err != nil {
		t.Fatal(s, err)
	}
	return e
}

func TestDays(t *testing.T) {
	for _, c := range []struct {
		text     string
		from, to int
		want     []int
	}{
		{onceText, 0, api.MaxDay, []int{7}},
		{onceText, 7, 7, []int{7}},
		{onceText, 0, 6, nil},
		{onceText, 8, api.MaxDay, nil},
		{onceText, 8, 6, nil},
		{onceText, math.MinInt, math.MaxInt, []int{7}},
		{onceText, math.MaxInt, math.MinInt, nil},

		{"a||2000-01-01|1|daily 1 count 5|2000-01-01,2000-01-03|", 0, 99, []int{1, 3, 4}},
		{"a||2000-01-01|1|daily 2 count 3|2000-01-02|", 0, 99, []int{0, 2, 4}},
		{"a||2000-01-01|1|once|2000-01-01|", 0, 99, nil},

		// A move of a day that is none brings nothing; one of a day that is one takes it away.
		{"a||2000-01-01|1|daily 2 count 3||2000-01-02>2000-01-09", 0, 99, []int{0, 2, 4}},
		{"a||2000-01-01|1|daily 2 count 3||2000-01-03>2000-01-09", 0, 99, []int{0, 4, 8}},
		{"a||2000-01-01|1|daily 2 count 3||2000-01-07>2000-01-09", 0, 99, []int{0, 2, 4}},
		{"a||2000-01-05|1|daily 2 count 3||2000-01-07>2000-01-01", 0, 99, []int{0, 4, 8}},
		// To itself; to one that is there; two to one.
		{"a||2000-01-01|1|daily 2 count 3||2000-01-03>2000-01-03", 0, 99, []int{0, 2, 4}},
		{"a||2000-01-01|1|daily 2 count 3||2000-01-03>2000-01-05", 0, 99, []int{0, 4}},
		{"a||2000-01-01|1|daily 2 count 3||2000-01-01>2000-01-09,2000-01-03>2000-01-09", 0, 99, []int{4, 8}},
		// To a day that is skipped, or moved itself: it is there all the same, and is not moved on.
		{"a||2000-01-01|1|daily 2 count 3|2000-01-03|2000-01-01>2000-01-03", 0, 99, []int{2, 4}},
		{"a||2000-01-01|1|daily 2 count 3||2000-01-01>2000-01-03,2000-01-03>2000-01-09", 0, 99, []int{2, 4, 8}},
		{"a||2000-01-01|1|daily 2 count 3||2000-01-01>2000-01-03,2000-01-03>2000-01-01", 0, 99, []int{0, 2, 4}},
		// The span is of the days as they are now.
		{"a||2000-01-01|1|daily 1||2199-12-31>2000-01-02", 1, 3, []int{1, 2, 3}},
		{"a||2000-01-01|1|yearly 1||2100-01-01>2000-01-02", 0, 3, []int{0, 1}},
		{"a||2000-01-01|1|daily 1 count 3||2000-01-01>2199-12-31", api.MaxDay, api.MaxDay, []int{api.MaxDay}},
		{"a||2000-01-01|1|daily 1 count 3||2000-01-02>2199-12-31", 0, 2, []int{0, 2}},
		{"a||2000-01-01|1|daily 1 count 3||2000-01-02>2199-12-31", 1, 1, nil},
		// Count counts the days of the rule, skipped ones too.
		{"a||2000-01-01|1|daily 1 count 2|2000-01-01,2000-01-02|", 0, api.MaxDay, nil},
		{"a||2199-12-30|1|daily 1||2199-12-31>2000-01-01", 0, api.MaxDay, []int{0, 73047}},
	} {
		got, err := event.Days(read(t, c.text), c.from, c.to)
		if err != nil || !slices.Equal(got, c.want) {
			t.Errorf("%s, %d to %d: %v, %v; want %v", c.text, c.from, c.to, got, err, c.want)
		}
	}
}

// TestDaysAreCounted: ErrFull is of the days of the answer, behind skips and moves.
func TestDaysAreCounted(t *testing.T) {
	plain := read(t, "a||2000-01-01|1|daily 1||")
	skips, away, together, back := plain, plain, plain, plain
	skips.Skips = upTo(api.MaxSkips)
	away.Moves = movesOf(0, api.MaxSkips, 5000)
	together.Moves = movesOf(0, api.MaxSkips, 500)
	back.Moves = []api.Move{{From: 5000, To: 2}, {From: 5001, To: 1000}}
	for i, c := range []struct {
		event    api.Event
		from, to int
		many     int
		err      error
	}{
		{plain, 0, 999, 1000, nil},
		{plain, 0, 1000, 0, api.ErrFull},
		{plain, 60000, 60999, 1000, nil},
		{plain, 60000, 61000, 0, api.ErrFull},
		{plain, math.MinInt, math.MaxInt, 0, api.ErrFull},
		{plain, api.MaxDay - 999, math.MaxInt, 1000, nil},
		{skips, 0, 1019, 1000, nil},
		{skips, 0, 1020, 0, api.ErrFull},
		{away, 0, 1019, 1000, nil},
		{away, 0, 1020, 0, api.ErrFull},
		{together, 0, 1019, 1000, nil},
		{together, 0, 1020, 0, api.ErrFull},
		{back, 0, 999, 1000, nil},
		{back, 1, 1000, 1000, nil},
		{back, 0, 1000, 0, api.ErrFull},
	} {
		got, err := event.Days(c.event, c.from, c.to)
		if len(got) != c.many || err != c.err {
			t.Errorf("%d: %d days, %v; want %d, %v", i, len(got), err, c.many, c.err)
		}
	}
	// The days of the rule, and one more that is moved in from far behind them.
	sparse := read(t, "a||2000-01-01|1|daily 2||2099-12-31>2000-01-02")
	if got, err := event.Days(sparse, 0, 1998); len(got) != 0 || err != api.ErrFull {
		t.Errorf("%d days, %v; want %v", len(got), err, api.ErrFull)
	}
	if got, err := event.Days(sparse, 0, 1997); len(got) != 1000 || err != nil {
		t.Errorf("%d days, %v; want 1000", len(got), err)
	}
}

// base: the days of an event's start and rule, as a table of all days.
func base(t *testing.T, e api.Event) []bool {
	t.Helper()
	is := make([]bool, api.MaxDay+1)
	for from := 0; from <= api.MaxDay; from += api.MaxList {
		part, err := expand.In(e.Start, e.Rule, from, from+api.MaxList-1)
		if err != nil {
			t.Fatal(e, err)
		}
		for _, d := range part {
			is[d] = true
		}
	}
	return is
}

// wanted: P42's words, day by day.
func wanted(t *testing.T, e api.Event) []int {
	t.Helper()
	is := base(t, e)
	var list []int
	for d := range api.MaxDay + 1 {
		one := is[d] && !slices.Contains(e.Skips, d)
		for _, m := range e.Moves {
			one = one && m.From != d
		}
		for _, m := range e.Moves {
			one = one || m.To == d && is[m.From]
		}
		if one {
			list = append(list, d)
		}
	}
	return list
}

func within(list []int, from, to int) []int {
	var some []int
	for _, d := range list {
		if d >= from && d <= to {
			some = append(some, d)
		}
	}
	return some
}

var lives = []string{
	onceText, fullText,
	"a||2000-01-01|1|daily 1|2000-01-03,2000-02-01|2000-01-05>2000-01-04,2000-01-06>2199-12-31,2199-12-31>2000-01-03",
	"b||2000-01-01|7|daily 3|2000-01-04,2000-01-05|2000-01-07>2000-01-07,2000-01-08>2000-03-01,2000-01-10>2000-01-13",
	"c||2000-01-05|60|weekly 2 mo,th,su|2000-01-06|2000-01-09>2000-02-20,2000-01-17>2000-02-20,2160-01-01>2000-01-01",
	"d||2000-01-31|59|monthly 1 count 40|2000-03-31|2000-02-29>2000-02-29,2000-05-31>2000-06-01",
	"e||2000-02-29|2|yearly 1 until 2150-01-01|2004-02-29|2008-02-29>2008-03-01,2096-02-29>2000-01-01",
	"f||2199-12-31|60|daily 1||2199-12-31>2199-12-30",
	"g||2199-12-30|60|weekly 1||",
}

func TestDaysAgainstEachDay(t *testing.T) {
	for _, text := range lives {
		e := read(t, text)
		all := wanted(t, e)
		for _, span := range [][2]int{{0, 900}, {0, 0}, {2, 5}, {50, 60}, {40000, 40999}, {api.MaxDay - 100, api.MaxDay}, {math.MinInt, 400}, {api.MaxDay - 99, math.MaxInt}, {0, api.MaxDay}, {9, 3}} {
			want, wantErr := within(all, span[0], span[1]), error(nil)
			if len(want) > api.MaxList {
				want, wantErr = nil, api.ErrFull
			}
			if got, err := event.Days(e, span[0], span[1]); err != wantErr || !slices.Equal(got, want) {
				t.Errorf("%s, %v: %v, %v; want %v, %v", text, span, got, err, want, wantErr)
			}
		}
	}
}

func TestCoversAgainstEachDay(t *testing.T) {
	for _, text := range lives {
		e := read(t, text)
		is := make([]bool, api.MaxDay+1+api.MaxLong)
		for _, begin := range wanted(t, e) {
			for k := range e.Long {
				is[begin+k] = true
			}
		}
		for _, span := range [][2]int{{0, 150}, {1500, 1530}, {2980, 2990}, {36583, 36590}, {api.MaxDay - 130, api.MaxDay}} {
			for d := span[0]; d <= span[1]; d++ {
				if got := event.Covers(e, d); got != is[d] {
					t.Errorf("%s: Covers(%d) = %v", text, d, got)
				}
			}
		}
		for _, d := range []int{-1, -2, api.MaxDay + 1, api.MaxDay + 2, math.MinInt, math.MaxInt} {
			if event.Covers(e, d) {
				t.Errorf("%s: Covers(%d), which is no day", text, d)
			}
		}
	}
}

func TestDaysAreNewMemory(t *testing.T) {
	e := fullEvent()
	first, err := event.Days(e, 0, 100)
	if err != nil || len(first) == 0 {
		t.Fatal(first, err)
	}
	for i := range first {
		first[i] = -7
	}
	event.Covers(e, 5)
	if again, _ := event.Days(e, 0, 100); slices.Contains(again, -7) || !isSame(e, fullEvent()) {
		t.Error(again, e)
	}
}

// TestListsReadNoFurther: what lies behind the lists' lengths is no skip and no move.
func TestListsReadNoFurther(t *testing.T) {
	skips := []int{1, 2}
	moves := []api.Move{{From: 3, To: 9}, {From: 4, To: 10}}
	e := read(t, "a||2000-01-01|1|daily 1 count 6||")
	e.Skips, e.Moves = skips[:1], moves[:1]
	got, err := event.Days(e, 0, 99)
	if err != nil || !slices.Equal(got, []int{0, 2, 4, 5, 9}) {
		t.Error(got, err)
	}
	if x, err := event.Set(e, "title", "x"); err != nil || event.Text(x) != "a|x|2000-01-01|1|daily 1 count 6|2000-01-02|2000-01-04>2000-01-10" {
		t.Error(x, err)
	}
}
