package side_test

import (
	"errors"
	"fmt"
	"math"
	"math/rand"
	"slices"
	"strings"
	"testing"

	"lammastide/api"
	"lammastide/event"
	"lammastide/repo"
	"lammastide/side"
)

func read(t *testing.T, s string) api.Event {
	t.Helper()
	e, err := event.Read(s)
	if err != nil {
		t.Fatal(s, err)
	}
	return e
}

// wellEvents of several kinds, none of which has more than MaxList days up to day 900.
func wellEvents(t *testing.T) []api.Event {
	t.Helper()
	return []api.Event{
		read(t, "a|x|2000-01-05|1|weekly 1||"),
		read(t, "b||2000-01-12|1|once||"),
		read(t, "c||2000-01-01|1|daily 7 count 3||"),
		read(t, "d||2000-01-01|9|daily 1|2000-01-03|2000-01-05>2000-01-04,2000-01-06>2000-02-20"),
		read(t, "e||2000-01-31|2|monthly 1||2000-03-31>2000-04-01"),
		read(t, "f||2000-02-29|1|yearly 1 until 2150-01-01||"),
		read(t, "g||2199-12-31|1|daily 1||"),
	}
}

// many of a list: its items over and over.
func many[T any](list []T, n int) []T {
	var all []T
	for i := range n {
		all = append(all, list[i%len(list)])
	}
	return all
}

// refuses: nothing is answered but this error, bare.
func refuses[T any](t *testing.T, got []T, err, want error) {
	t.Helper()
	if len(got) != 0 || err != want {
		t.Errorf("%v, %v; want %v", got, err, want)
	}
}

// noWorkers: numbers that are not from 1 to Workers.
func noWorkers() []int { return []int{0, -1, 17, 18, math.MinInt, math.MaxInt} }

func TestDays(t *testing.T) {
	l := wellEvents(t)
	for workers := 1; workers <= 16; workers++ {
		got, err := side.Days(l, 5, 20, workers)
		if s := fmt.Sprint(got); s != "[[11 18] [11] [7 14] [6 7 8 9 10 11 12 13 14 15 16 17 18 19 20] [] [] []]" || err != nil {
			t.Error(workers, s, err)
		}
		if got, err := side.Days(nil, 5, 20, workers); len(got) != 0 || err != nil {
			t.Error(workers, got, err)
		}
		if got, err := side.Days([]api.Event{}, 5, 20, workers); len(got) != 0 || err != nil {
			t.Error(workers, got, err)
		}
	}
}

// TestDaysOfSpans: each is what event.Days answers, of any span.
func TestDaysOfSpans(t *testing.T) {
	l := many(wellEvents(t), 100)
	for _, span := range [][2]int{{0, 900}, {0, 0}, {50, 60}, {9, 3}, {math.MinInt, 400}, {-5, -1}, {api.MaxDay - 99, math.MaxInt}, {api.MaxDay + 1, math.MaxInt}, {math.MaxInt, math.MinInt}} {
		for _, workers := range []int{1, 2, 7, 16} {
			got, err := side.Days(l, span[0], span[1], workers)
			if len(got) != 100 || err != nil {
				t.Fatal(span, workers, len(got), err)
			}
			for at, e := range l {
				if want, err := event.Days(e, span[0], span[1]); !slices.Equal(got[at], want) || err != nil {
					t.Errorf("%v, %d by %d: %v; want %v, %v", span, at, workers, got[at], want, err)
				}
			}
		}
	}
}

func TestDaysRefuses(t *testing.T) {
	well := wellEvents(t)
	for _, workers := range noWorkers() {
		for _, l := range [][]api.Event{nil, well, many(well, 101), {{}}} {
			got, err := side.Days(l, 0, 1, workers)
			refuses(t, got, err, api.ErrShape)
		}
	}
	for _, workers := range []int{1, 2, 16} {
		for _, l := range [][]api.Event{many(well, 101), make([]api.Event, 101), make([]api.Event, 2000)} {
			got, err := side.Days(l, 0, 1, workers)
			refuses(t, got, err, api.ErrBound)
		}
		if got, err := side.Days(many(well, 100), 0, 1, workers); len(got) != 100 || err != nil {
			t.Error(len(got), err)
		}
	}
}

// wrongEvents: one for each error of event.Days.
func wrongEvents(t *testing.T) map[error]api.Event {
	t.Helper()
	title, bound, shape := read(t, "a||2000-01-01|1|once||"), read(t, "a||2000-01-01|1|once||"), read(t, "a||2000-01-01|1|once||")
	title.Title, bound.Long, shape.Rule.Days = "a|b", 0, []int{1}
	order, exist := read(t, "a||2000-01-01|1|daily 1||"), read(t, "a||2000-01-01|1|daily 1|2000-01-02|")
	order.Skips, exist.Moves = []int{2, 1}, []api.Move{{From: 1, To: 2}}
	return map[error]api.Event{
		api.ErrName: {}, api.ErrText: title, api.ErrBound: bound, api.ErrShape: shape,
		api.ErrOrder: order, api.ErrExist: exist, api.ErrFull: read(t, "a||2000-01-01|1|daily 1||"),
	}
}

// refusesAt: nothing is answered but this error, at this event.
func refusesAt(t *testing.T, l []api.Event, workers, at int, want error) {
	t.Helper()
	got, err := side.Days(l, 0, 1000, workers)
	fault, is := err.(*api.Fault)
	if len(got) != 0 || !is || fault.At != at || fault.Err != want || !errors.Is(err, want) {
		t.Errorf("by %d: %v, %v; want %v at %d", workers, got, err, want, at)
	}
}

// TestDaysTellsTheFirst: wherever several have errors, whoever is done first, it is the first one's, at its place.
func TestDaysTellsTheFirst(t *testing.T) {
	wrong := wrongEvents(t)
	for want, first := range wrong {
		if _, err := event.Days(first, 0, 1000); err != want {
			t.Fatal(first, err, want)
		}
		for _, at := range []int{0, 1, 15, 16, 99} {
			for _, workers := range []int{1, 2, 3, 16} {
				l := make([]api.Event, 100)
				copy(l, many(wellEvents(t)[:3], at))
				l[at] = first
				for i := at + 1; i < len(l); i++ {
					l[i] = wrong[[]error{api.ErrName, api.ErrFull, api.ErrExist}[i%3]]
				}
				refusesAt(t, l, workers, at, want)
			}
		}
	}
}

// TestDaysFull: MaxList days are told, one more is api.ErrFull.
func TestDaysFull(t *testing.T) {
	l := []api.Event{read(t, "b||2000-01-12|1|once||"), read(t, "a||2000-01-01|1|daily 1||")}
	for _, workers := range []int{1, 16} {
		if got, err := side.Days(l, 0, 999, workers); err != nil || len(got) != 2 || len(got[1]) != 1000 {
			t.Error(workers, got, err)
		}
		refusesAt(t, l, workers, 1, api.ErrFull)
	}
}

// TestDaysAreNewMemory: what is answered is nobody else's, and what is given is only read, up to its length.
func TestDaysAreNewMemory(t *testing.T) {
	well := wellEvents(t)
	l := append(many(well[3:4], 20), api.Event{}, api.Event{})[:20]
	asked, _ := side.Days(l, 0, 99, 4)
	again, err := side.Days(l, 0, 99, 4)
	if len(again) != 20 || err != nil {
		t.Fatal(again, err)
	}
	for at := range asked {
		for i := range asked[at] {
			asked[at][i] = -at
		}
	}
	for at := range asked {
		asked[at] = append(asked[at], -at)
		if slices.ContainsFunc(asked[at], func(d int) bool { return d != -at }) {
			t.Errorf("%d: another list is written into it: %v", at, asked[at])
		}
		if want, _ := event.Days(well[3], 0, 99); !slices.Equal(again[at], want) {
			t.Errorf("%d: %v; want %v", at, again[at], want)
		}
		if event.Text(l[at]) != event.Text(well[3]) {
			t.Errorf("%d: %v", at, l[at])
		}
	}
	if behind := l[:22]; behind[20].ID != "" || behind[21].ID != "" {
		t.Error(behind[20:])
	}
}

// put: a line that puts an event of one day.
func put(id, title string) string { return "put " + id + "|" + title + "|2000-01-05|1|once||" }

func TestPlays(t *testing.T) {
	scripts := [][]string{
		nil,
		{},
		{put("b", "x"), put("a", ""), "what", "commit x", "tick 3"},
		{"commit a", "tick 2", "commit b"},
		{put("a", "x"), "commit a", "branch b", "tick 4", "drop a", "commit b", "forget b", put("c", "")},
		{put("a", "x"), "commit a", "branch b", "switch b"},
		{"head", "log", "on 2000-01-05"},
	}
	want := []string{
		"",
		"",
		"main 0:1\na||2000-01-05|1|once||\nb|x|2000-01-05|1|once||\n",
		"main 0:1 2:2\n",
		"b 0:1 4:-\nmain 0:1 4:3\nc||2000-01-05|1|once||\n",
		"b 0:1\nmain 0:1\na|x|2000-01-05|1|once||\n",
		"",
	}
	for workers := 1; workers <= 16; workers++ {
		if got, err := side.Plays(scripts, workers); !slices.Equal(got, want) || err != nil {
			t.Errorf("%d: %q, %v; want %q", workers, got, err, want)
		}
		if got, err := side.Plays(nil, workers); len(got) != 0 || err != nil {
			t.Errorf("%d: %q, %v", workers, got, err)
		}
		if got, err := side.Plays([][]string{}, workers); len(got) != 0 || err != nil {
			t.Errorf("%d: %q, %v", workers, got, err)
		}
	}
}

// TestPlaysGoPastErrors: behind a line with an error the next ones are done as if it were not there.
func TestPlaysGoPastErrors(t *testing.T) {
	wrong := []string{"", " ", "nothing of the kind", "put", "put x", put("A", ""), "drop zz", "tick -1", "commit " + strings.Repeat("x", 41), "branch main", "switch zz", "merge zz", "forget main", "on 2000-02-30", "cut 0", "\x00\xff", strings.Repeat("x", 1<<20)}
	right := []string{put("a", "x"), "commit one", "branch b", "tick 2", put("c", ""), "commit two", "switch b", put("a", "y"), "commit three", "merge main"}
	var mixed []string
	for i, line := range right {
		mixed = append(mixed, line, wrong[i], wrong[len(wrong)-1-i])
	}
	const want = "b 0:1 2:5 2:7\nmain 0:1 2:3\na|y|2000-01-05|1|once||\nc||2000-01-05|1|once||\n"
	for workers := 1; workers <= 16; workers++ {
		got, err := side.Plays([][]string{right, mixed, wrong}, workers)
		if !slices.Equal(got, []string{want, want, ""}) || err != nil {
			t.Errorf("%d: %q, %v", workers, got, err)
		}
	}
}

func TestPlaysRefuses(t *testing.T) {
	long := many([]string{put("a", "x"), "commit x"}, 81)
	few, wide := [][]string{nil, long, nil}, make([][]string, 41)
	for _, workers := range noWorkers() {
		for _, scripts := range [][][]string{nil, {nil}, few, wide} {
			got, err := side.Plays(scripts, workers)
			refuses(t, got, err, api.ErrShape)
		}
	}
	for _, workers := range []int{1, 2, 16} {
		for _, scripts := range [][][]string{few, wide, {long}, {make([]string, 81)}, many([][]string{nil, nil, long}, 39), make([][]string, 500)} {
			got, err := side.Plays(scripts, workers)
			refuses(t, got, err, api.ErrBound)
		}
		got, err := side.Plays(many([][]string{long[:80], nil}, 40), workers)
		if len(got) != 40 || err != nil || strings.Count(got[38], ":") != 40 || got[39] != "" {
			t.Errorf("%q, %v", got, err)
		}
	}
}

// TestPlaysOnlyRead: what is given is as it was, also behind its length.
func TestPlaysOnlyRead(t *testing.T) {
	lines := []string{put("a", "x"), "commit x", "drop a", "never said"}
	scripts := [][]string{lines[:2], lines[:3], lines}
	if got, err := side.Plays(scripts[:2], 3); len(got) != 2 || err != nil || got[0] == got[1] {
		t.Errorf("%q, %v", got, err)
	}
	if !slices.Equal(lines, []string{put("a", "x"), "commit x", "drop a", "never said"}) || len(scripts[0]) != 2 || len(scripts[1]) != 3 || len(scripts[2]) != 4 {
		t.Errorf("%q", scripts)
	}
}

// someScript of lines of any kind.
func someScript(random *rand.Rand) []string {
	var lines []string
	for range random.Intn(81) {
		name := []string{"main", "b", "c", "zz"}[random.Intn(4)]
		lines = append(lines, []string{
			put([]string{"x", "y", "X"}[random.Intn(3)], name), "drop x", "tick 1", "tick x", "commit n", "commit m",
			"branch " + name, "switch " + name, "merge " + name, "forget " + name, "sweep", "log", "what",
		}[random.Intn(13)])
	}
	return lines
}

// played plainly: line by line, a repository of its own for each script.
func played(scripts [][]string) []string {
	var all []string
	for _, lines := range scripts {
		r := repo.New()
		for _, line := range lines {
			r.Do(line)
		}
		all = append(all, r.Refs().Text()+r.Work().Text())
	}
	return all
}

// TestByHoweverMany: P151, of events with errors and without, and of scripts of any kind.
func TestByHoweverMany(t *testing.T) {
	random := rand.New(rand.NewSource(15))
	events := wellEvents(t)
	for _, wrong := range []error{api.ErrName, api.ErrFull, api.ErrOrder} {
		events = append(events, wrongEvents(t)[wrong])
	}
	for range 30 {
		var l []api.Event
		kinds := 7 + random.Intn(4)
		for range random.Intn(101) {
			l = append(l, events[random.Intn(kinds)])
		}
		var scripts [][]string
		for range random.Intn(41) {
			scripts = append(scripts, someScript(random))
		}
		from := random.Intn(2000) - 500
		to := from + random.Intn(1500)
		first, firstErr := side.Days(l, from, to, 1)
		want := played(scripts)
		for workers := 1; workers <= 16; workers++ {
			if got, err := side.Days(l, from, to, workers); fmt.Sprint(got) != fmt.Sprint(first) || !isSameError(err, firstErr) {
				t.Errorf("by %d: %v, %v; by one: %v, %v", workers, got, err, first, firstErr)
			}
			if got, err := side.Plays(scripts, workers); !slices.Equal(got, want) || err != nil {
				t.Errorf("by %d: %q, %v; want %q", workers, got, err, want)
			}
		}
	}
}

// isSameError: the same error, at the same place?
func isSameError(a, b error) bool {
	var x, y *api.Fault
	if errors.As(a, &x) && errors.As(b, &y) {
		return *x == *y
	}
	return a == b
}
