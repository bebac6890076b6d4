package event_test

import (
	"math"
	"slices"
	"strings"
	"testing"

	"lammastide/api"
	"lammastide/event"
)

var written = []struct {
	text  string
	event api.Event
}{
	{onceText, onceEvent()},
	{fullText, fullEvent()},
	{"0||2000-01-01|1|once||", api.Event{ID: "0", Long: 1, Rule: api.Rule{Freq: "once", Every: 1, Until: -1}}},
	{"zz9|a,b>c d|2199-12-31|60|yearly 100|2000-01-01,2199-12-31|", api.Event{ID: "zz9", Title: "a,b>c d", Start: api.MaxDay, Long: 60, Rule: api.Rule{Freq: "yearly", Every: 100, Until: -1}, Skips: []int{0, api.MaxDay}}},
	{"m|M|2000-02-29|10|monthly 1 until 2000-12-31||2000-01-01>2199-12-31", api.Event{ID: "m", Title: "M", Start: 59, Long: 10, Rule: api.Rule{Freq: "monthly", Every: 1, Until: 365}, Moves: []api.Move{{From: 0, To: api.MaxDay}}}},
}

func TestWritten(t *testing.T) {
	for _, c := range written {
		if s := event.Text(c.event); s != c.text {
			t.Errorf("Text(%v) = %q; want %q", c.event, s, c.text)
		}
		e, err := event.Read(c.text)
		if err != nil || !isSame(e, c.event) {
			t.Errorf("Read(%q) = %v, %v; want %v", c.text, e, err, c.event)
		}
	}
}

func TestFields(t *testing.T) {
	want := []string{"title", "start", "long", "rule", "skips", "moves"}
	first := event.Fields()
	if !slices.Equal(first, want) {
		t.Error(first)
	}
	first[0] = "x"
	if again := event.Fields(); !slices.Equal(again, want) {
		t.Error("two answers share memory: ", again)
	}
}

func TestGet(t *testing.T) {
	for field, want := range map[string]string{
		"title": "The Fair", "start": "2000-01-05", "long": "3", "rule": "weekly 2 mo,we count 9",
		"skips": "2000-01-17", "moves": "2000-01-19>2000-01-20,2000-01-31>2000-01-05",
		"": "", "id": "", "ID": "", "Title": "", "title ": "", "skip": "", "all": "",
	} {
		if got := event.Get(fullEvent(), field); got != want {
			t.Errorf("%q: %q; want %q", field, got, want)
		}
	}
	for field, want := range map[string]string{"title": "Fair", "start": "2000-01-08", "long": "1", "rule": "once", "skips": "", "moves": ""} {
		if got := event.Get(onceEvent(), field); got != want {
			t.Errorf("%q: %q; want %q", field, got, want)
		}
	}
}

// TestGetOfNoEvent: a field's text is told whatever the other fields are, and none of them brings it down.
func TestGetOfNoEvent(t *testing.T) {
	e := api.Event{ID: "A", Title: "a|b", Start: -1, Long: -5, Skips: []int{5}, Moves: []api.Move{{From: 1, To: 0}}}
	for field, want := range map[string]string{"title": "a|b", "start": "", "long": "-5", "rule": "", "skips": "2000-01-06", "moves": "2000-01-02>2000-01-01"} {
		if got := event.Get(e, field); got != want {
			t.Errorf("%q: %q; want %q", field, got, want)
		}
	}
	wild := api.Event{Start: math.MinInt, Long: math.MaxInt, Skips: []int{math.MaxInt, -1}, Moves: []api.Move{{From: math.MinInt, To: math.MaxInt}}}
	for _, field := range append(event.Fields(), "id", "") {
		event.Get(wild, field)
	}
}

func TestSet(t *testing.T) {
	for _, c := range []struct {
		field, text string
		want        api.Event
	}{
		{"title", "", changed(func(e *api.Event) { e.Title = "" })},
		{"title", strings.Repeat("~", api.MaxTitle), changed(func(e *api.Event) { e.Title = strings.Repeat("~", api.MaxTitle) })},
		{"start", "2000-01-01", changed(func(e *api.Event) { e.Start = 0 })},
		{"start", "2199-12-31", changed(func(e *api.Event) { e.Start = api.MaxDay })},
		{"long", "1", changed(func(e *api.Event) { e.Long = 1 })},
		{"long", "60", changed(func(e *api.Event) { e.Long = 60 })},
		{"rule", "once", changed(func(e *api.Event) { e.Rule = api.Rule{Freq: "once", Every: 1, Until: -1} })},
		{"rule", "weekly 1 su", changed(func(e *api.Event) { e.Rule = api.Rule{Freq: "weekly", Every: 1, Days: []int{6}, Until: -1} })},
		{"skips", "", changed(func(e *api.Event) { e.Skips = nil })},
		{"skips", "2000-01-01,2199-12-31", changed(func(e *api.Event) { e.Skips = []int{0, api.MaxDay} })},
		{"moves", "", changed(func(e *api.Event) { e.Moves = nil })},
		{"moves", "2000-01-01>2000-01-01", changed(func(e *api.Event) { e.Moves = []api.Move{{From: 0, To: 0}} })},
	} {
		e := fullEvent()
		got, err := event.Set(e, c.field, c.text)
		if err != nil || !isSame(got, c.want) {
			t.Errorf("Set(%q, %q) = %v, %v; want %v", c.field, c.text, got, err, c.want)
		}
		if event.Get(got, c.field) != c.text {
			t.Errorf("Set(%q, %q), and got %q", c.field, c.text, event.Get(got, c.field))
		}
		if !isSame(e, fullEvent()) {
			t.Errorf("Set(%q, %q) changes what it is given: %v", c.field, c.text, e)
		}
	}
}

// setRefuses: Set tells the error itself, and an event of zeros.
func setRefuses(t *testing.T, e api.Event, field, text string, want error) {
	t.Helper()
	got, err := event.Set(e, field, text)
	if err != want || !isSame(got, api.Event{}) {
		t.Errorf("Set(%q, %.60q) = %v, %v; want %v", field, text, got, err, want)
	}
}

func TestSetRefuses(t *testing.T) {
	for _, field := range []string{"", "id", "ID", "all", "Title", "titles", " title", "rule ", "\xff"} {
		setRefuses(t, fullEvent(), field, "x", api.ErrName)
		setRefuses(t, fullEvent(), field, "", api.ErrName)
	}
	for _, c := range []struct {
		field, text string
		want        error
	}{
		{"title", "a|b", api.ErrText}, {"title", "\n", api.ErrText}, {"title", strings.Repeat("x", 41), api.ErrText},
		{"start", "", api.ErrText}, {"start", "4", api.ErrText}, {"start", "2000-1-5", api.ErrText}, {"start", "2000-01-05 ", api.ErrText},
		{"start", "2000-02-30", api.ErrBound}, {"start", "2200-01-01", api.ErrBound}, {"start", "1999-12-31", api.ErrBound},
		{"rule", "", api.ErrText}, {"rule", "daily", api.ErrText}, {"rule", "twice", api.ErrText}, {"rule", "daily 1 ", api.ErrText}, {"rule", "daily 101", api.ErrBound}, {"rule", "daily 1 mo", api.ErrShape}, {"rule", "weekly 1 tu,mo", api.ErrOrder},
		{"skips", ",", api.ErrText}, {"skips", "x", api.ErrText}, {"skips", " ", api.ErrText}, {"skips", "2000-01-17,", api.ErrText}, {"skips", ",2000-01-17", api.ErrText}, {"skips", "2000-01-17, 2000-01-18", api.ErrText}, {"skips", "2000-01-17,,2000-01-20", api.ErrText}, {"skips", "2000-01-17>2000-01-18", api.ErrText}, {"skips", "2000-01-17|", api.ErrText},
		{"skips", "2000-13-01", api.ErrBound}, {"skips", "2000-01-17,2000-01-32", api.ErrBound}, {"skips", "2000-01-17,2000-01-17", api.ErrOrder}, {"skips", "2000-01-17,2000-01-16", api.ErrOrder}, {"skips", "2000-01-19", api.ErrExist},
		{"moves", ",", api.ErrText}, {"moves", ">", api.ErrText}, {"moves", "2000-01-19", api.ErrText}, {"moves", "2000-01-19>", api.ErrText}, {"moves", ">2000-01-19", api.ErrText}, {"moves", "2000-01-19>2000-01-20,", api.ErrText}, {"moves", ",2000-01-19>2000-01-20", api.ErrText}, {"moves", "2000-01-19>2000-01-20>2000-01-21", api.ErrText}, {"moves", "2000-01-19>>2000-01-20", api.ErrText}, {"moves", "2000-01-19,2000-01-20", api.ErrText}, {"moves", "2000-01-19 > 2000-01-20", api.ErrText},
		{"moves", "2000-02-30>2000-01-20", api.ErrBound}, {"moves", "2000-01-19>2000-02-30", api.ErrBound}, {"moves", "2000-01-19>2000-01-20,2000-01-19>2000-01-21", api.ErrOrder}, {"moves", "2000-01-19>2000-01-20,2000-01-18>2000-01-21", api.ErrOrder}, {"moves", "2000-01-17>2000-01-20", api.ErrExist},
	} {
		setRefuses(t, fullEvent(), c.field, c.text, c.want)
	}
}

func TestSetLong(t *testing.T) {
	for text, want := range map[string]error{
		"": api.ErrText, " ": api.ErrText, "x": api.ErrText, "1x": api.ErrText, " 1": api.ErrText, "1 ": api.ErrText, "01": api.ErrText, "00": api.ErrText, "-0": api.ErrText, "-01": api.ErrText, "-": api.ErrText, "--1": api.ErrText, "+1": api.ErrText, "1.0": api.ErrText, "1e1": api.ErrText, "0x1": api.ErrText, "1_0": api.ErrText, "١": api.ErrText,
		"1234567890": api.ErrText, "-123456789": api.ErrText, "0000000001": api.ErrText, "18446744073709551617": api.ErrText, strings.Repeat("9", 5000): api.ErrText,
		"0": api.ErrBound, "61": api.ErrBound, "-1": api.ErrBound, "999999999": api.ErrBound, "-99999999": api.ErrBound,
	} {
		setRefuses(t, fullEvent(), "long", text, want)
	}
}

func TestSetTellsTheFirst(t *testing.T) {
	full := fullEvent()
	setRefuses(t, full, "id", "a|b", api.ErrName)
	setRefuses(t, full, "moves", "2000-02-30>2000-01-20,x", api.ErrText)
	setRefuses(t, full, "moves", "2000-02-30>2000-01-01>2000-01-02", api.ErrText)
	setRefuses(t, full, "moves", "2000-02-30>x", api.ErrBound)
	setRefuses(t, full, "moves", "x>2000-02-30", api.ErrText)
	setRefuses(t, full, "skips", "2000-02-30,x", api.ErrBound)
	setRefuses(t, full, "skips", "x,2000-02-30", api.ErrText)
	setRefuses(t, full, "skips", "2000-01-05,2000-01-04,2000-02-30", api.ErrBound)
	many := strings.TrimSuffix(strings.Repeat("2000-01-17,", 5000), ",")
	setRefuses(t, full, "skips", many, api.ErrFull)
	setRefuses(t, full, "skips", many+",x", api.ErrText)
	// An event that is not well stays so, if the field that is set is not the one.
	bad := changed(func(e *api.Event) { e.ID = "A" })
	setRefuses(t, bad, "title", "x", api.ErrName)
	setRefuses(t, bad, "title", "a|b", api.ErrName)
	setRefuses(t, bad, "long", "61", api.ErrName)
	setRefuses(t, bad, "long", "x", api.ErrText)
	setRefuses(t, bad, "start", "2000-02-30", api.ErrBound)
	setRefuses(t, api.Event{}, "rule", "once", api.ErrName)
	if got, err := event.Set(changed(func(e *api.Event) { e.Long = 99 }), "long", "3"); err != nil || !isSame(got, full) {
		t.Errorf("what is set mends it: %v, %v", got, err)
	}
}

func TestSetSharesNothing(t *testing.T) {
	for _, c := range [][2]string{{"title", "x"}, {"start", "2000-01-06"}, {"long", "4"}, {"skips", "2000-01-18"}, {"moves", "2000-01-18>2000-01-19"}, {"rule", "weekly 1 tu"}} {
		e := fullEvent()
		got, err := event.Set(e, c[0], c[1])
		if err != nil {
			t.Fatal(c, err)
		}
		scribble(&got)
		if !isSame(e, fullEvent()) {
			t.Errorf("%s: what is written into the answer shows in what was given: %v", c[0], e)
		}
	}
}

// scribble over all lists of an event, and over the room behind them.
func scribble(e *api.Event) {
	for i := range e.Rule.Days {
		e.Rule.Days[i] = 77
	}
	for i := range e.Skips {
		e.Skips[i] = 77
	}
	for i := range e.Moves {
		e.Moves[i] = api.Move{From: 77, To: 77}
	}
	_ = append(e.Rule.Days, 77)
	_ = append(e.Skips, 77)
	_ = append(e.Moves, api.Move{From: 77, To: 77})
}

func TestCopySharesNothing(t *testing.T) {
	e := fullEvent()
	other := event.Copy(e)
	if !isSame(other, e) || !isSame(event.Copy(api.Event{}), api.Event{}) {
		t.Error(other)
	}
	scribble(&other)
	if !isSame(e, fullEvent()) {
		t.Error(e)
	}
}

func TestReadSharesNothing(t *testing.T) {
	first, _ := event.Read(fullText)
	scribble(&first)
	if again, err := event.Read(fullText); err != nil || !isSame(again, fullEvent()) {
		t.Error(again, err)
	}
}

// readRefuses: Read tells the error itself, and an event of zeros.
func readRefuses(t *testing.T, s string, want error) {
	t.Helper()
	e, err := event.Read(s)
	if err != want || !isSame(e, api.Event{}) {
		t.Errorf("Read(%.80q) = %v, %v; want %v", s, e, err, want)
	}
}

func TestReadRefuses(t *testing.T) {
	for _, c := range []struct {
		s    string
		want error
	}{
		{"", api.ErrText}, {"|", api.ErrText}, {"a", api.ErrText}, {"|||||", api.ErrText}, {"||||||", api.ErrText}, {"|||||||", api.ErrText}, {strings.Repeat("|", 5000), api.ErrText},
		{"a|b|2000-01-01|1|once|", api.ErrText}, {"a|b|2000-01-01|1|once|||", api.ErrText}, {"a|b|c|2000-01-01|1|once||", api.ErrText}, {onceText + "\n", api.ErrText}, {onceText + " ", api.ErrText}, {" " + onceText, api.ErrName},
		{"|b|2000-01-01|1|once||", api.ErrName}, {"A|b|2000-01-01|1|once||", api.ErrName}, {"thirteenchars|b|2000-01-01|1|once||", api.ErrName},
		{"a|\x7f|2000-01-01|1|once||", api.ErrText}, {"a|" + strings.Repeat("x", 41) + "|2000-01-01|1|once||", api.ErrText},
		{"a|b||1|once||", api.ErrText}, {"a|b|0|1|once||", api.ErrText}, {"a|b|2000-01-32|1|once||", api.ErrBound}, {"a|b|1999-12-31|1|once||", api.ErrBound},
		{"a|b|2000-01-01||once||", api.ErrText}, {"a|b|2000-01-01|01|once||", api.ErrText}, {"a|b|2000-01-01|1234567890|once||", api.ErrText}, {"a|b|2000-01-01|0|once||", api.ErrBound}, {"a|b|2000-01-01|-1|once||", api.ErrBound}, {"a|b|2000-01-01|61|once||", api.ErrBound}, {"a|b|2000-01-01|123456789|once||", api.ErrBound},
		{"a|b|2000-01-01|1|||", api.ErrText}, {"a|b|2000-01-01|1|daily 01||", api.ErrText}, {"a|b|2000-01-01|1|daily 101||", api.ErrBound}, {"a|b|2000-01-01|1|daily 1 mo||", api.ErrShape}, {"a|b|2000-01-01|1|weekly 1 su,mo||", api.ErrOrder},
		{"a|b|2000-01-01|1|once|,|", api.ErrText}, {"a|b|2000-01-01|1|once|x|", api.ErrText}, {"a|b|2000-01-01|1|once|2000-01-01,|", api.ErrText}, {"a|b|2000-01-01|1|once|2000-02-30|", api.ErrBound}, {"a|b|2000-01-01|1|once|2000-01-02,2000-01-01|", api.ErrOrder},
		{"a|b|2000-01-01|1|once||x", api.ErrText}, {"a|b|2000-01-01|1|once||2000-01-01>", api.ErrText}, {"a|b|2000-01-01|1|once||2000-01-01>2000-01-02,", api.ErrText}, {"a|b|2000-01-01|1|once||2000-01-01>2000-02-30", api.ErrBound}, {"a|b|2000-01-01|1|once||2000-02-30>2000-01-01", api.ErrBound}, {"a|b|2000-01-01|1|once||2000-01-02>2000-01-03,2000-01-01>2000-01-03", api.ErrOrder},
		{"a|b|2000-01-01|1|once|2000-01-01|2000-01-01>2000-01-02", api.ErrExist},
		{"a|b|2000-01-01|1|once|" + strings.TrimSuffix(strings.Repeat("2000-01-01,", 21), ",") + "|", api.ErrFull},
		{"a|b|2000-01-01|1|once||" + strings.TrimSuffix(strings.Repeat("2000-01-01>2000-01-01,", 21), ","), api.ErrFull},
	} {
		readRefuses(t, c.s, c.want)
	}
}

// TestReadTellsTheFirst: the form of the whole, then days and rules from the left, then Check.
func TestReadTellsTheFirst(t *testing.T) {
	for _, c := range []struct {
		s    string
		want error
	}{
		{"A|b|2000-02-30|1|once|", api.ErrText},
		{"A|b|2000-02-30|x|once||", api.ErrText},
		{"A|b|2000-02-30|01|daily 0||", api.ErrText},
		{"A|b|2000-02-30|1|daily 0||x", api.ErrText},
		{"A|b|2000-02-30|1|daily||", api.ErrBound},
		{"A|b|2000-1-1|1|daily 0||", api.ErrText},
		{"A|b|2000-02-30|1|weekly 1 tu,mo||", api.ErrBound},
		{"A|b|2000-01-01|1|weekly 1 tu,mo|x|", api.ErrOrder},
		{"A|b|2000-01-01|1|daily 1 mo|2000-02-30|", api.ErrShape},
		{"A|b|2000-01-01|1|daily 0|x|", api.ErrBound},
		{"A|b|2000-01-01|1|once|2000-02-30|x>x", api.ErrBound},
		{"A|b|2000-01-01|1|once|x|2000-02-30>2000-01-01", api.ErrText},
		{"A|b|2000-01-01|1|once||2000-02-30>x", api.ErrBound},
		{"A|b|2000-01-01|1|once||x>2000-02-30", api.ErrText},
		{"A|\n|2000-01-01|0|once||", api.ErrName},
		{"a|\n|2000-01-01|0|once||", api.ErrText},
		{"a|b|2000-01-01|0|once|2000-01-02,2000-01-01|", api.ErrBound},
	} {
		readRefuses(t, c.s, c.want)
	}
}

// TestReadAsWritten: P43, over fields at and about their edges.
func TestReadAsWritten(t *testing.T) {
	texts := map[string]bool{}
	for _, id := range []string{"a", "0", "az09az09az09"} {
		for _, title := range []string{"", " ", "a,b>c", strings.Repeat("~", api.MaxTitle)} {
			for _, start := range []int{0, 59, api.MaxDay} {
				for _, long := range []int{1, 9, 10, 60} {
					for _, r := range []api.Rule{{Freq: "once", Every: 1, Until: -1}, {Freq: "weekly", Every: 2, Days: []int{0, 6}, Count: 1000, Until: -1}, {Freq: "yearly", Every: 100, Until: 0}} {
						for _, skips := range [][]int{nil, {0}, {1, api.MaxDay}, upTo(api.MaxSkips)} {
							for _, moves := range [][]api.Move{nil, {{From: 30, To: 0}}, movesOf(100, api.MaxSkips, api.MaxDay)} {
								e := api.Event{ID: id, Title: title, Start: start, Long: long, Rule: r, Skips: skips, Moves: moves}
								s := event.Text(e)
								if got, err := event.Read(s); err != nil || !isSame(got, e) {
									t.Fatalf("%v is written %q, and read %v, %v", e, s, got, err)
								}
								if texts[s] {
									t.Fatalf("two events are written %q", s)
								}
								texts[s] = true
							}
						}
					}
				}
			}
		}
	}
}

// ownText: a text that is read is its event's own, and its fields set one by one make the same event.
func ownText(t *testing.T, s string) {
	t.Helper()
	e, err := event.Read(s)
	if err != nil {
		if !isSame(e, api.Event{}) {
			t.Errorf("Read(%q) tells %v beside %v", s, e, err)
		}
		return
	}
	if event.Check(e) != nil || event.Text(e) != s {
		t.Errorf("Read(%q) = %v, which is %q", s, e, event.Text(e))
	}
	for _, field := range event.Fields() {
		if again, err := event.Set(e, field, event.Get(e, field)); err != nil || !isSame(again, e) {
			t.Errorf("%q: %s set to what it is: %v, %v", s, field, again, err)
		}
	}
}

func TestWellTextsAreTheOnlyOnes(t *testing.T) {
	for _, c := range written {
		for i := range len(c.text) {
			for _, put := range []string{"", " ", ",", ">", "|", "0", "1", "-", "x", "\x00", "\xff"} {
				ownText(t, c.text[:i]+put+c.text[i:])
				ownText(t, c.text[:i]+put+c.text[i+1:])
			}
		}
	}
}

func FuzzRead(f *testing.F) {
	for _, c := range written {
		f.Add(c.text)
	}
	f.Fuzz(ownText)
}
