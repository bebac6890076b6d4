package expand_test

import (
	"math"
	"slices"
	"strings"
	"testing"
	"time"

	"lammastide/api"
	"lammastide/day"
	"lammastide/expand"
	"lammastide/rule"
)

func readDay(t *testing.T, s string) int {
	t.Helper()
	n, err := day.Read(s)
	if err != nil {
		t.Fatal(s, err)
	}
	return n
}

func readRule(t *testing.T, s string) api.Rule {
	t.Helper()
	r, err := rule.Read(s)
	if err != nil {
		t.Fatal(s, err)
	}
	return r
}

func texts(list []int) string {
	var words []string
	for _, d := range list {
		words = append(words, day.Text(d))
	}
	return strings.Join(words, " ")
}

type date struct {
	year, month, day, weekday int
	week                      int // weeks from Monday to Sunday, numbered on
}

// dates of all days, by the library's calendar and not by package day.
var dates = func() []date {
	list := make([]date, api.MaxDay+1)
	at := time.Date(api.FirstYear, 1, 1, 0, 0, 0, 0, time.UTC)
	for n, week := 0, 0; n <= api.MaxDay; n++ {
		weekday := (int(at.Weekday()) + 6) % 7
		if weekday == 0 {
			week++
		}
		list[n] = date{at.Year(), int(at.Month()), at.Day(), weekday, week}
		at = at.AddDate(0, 0, 1)
	}
	return list
}()

// isCandidate looks at one day alone, where the program goes from day to day.
func isCandidate(start int, r api.Rule, d int) bool {
	a, b := dates[start], dates[d]
	months := (b.year-a.year)*12 + b.month - a.month
	switch r.Freq {
	case "once":
		return d == start
	case "daily":
		return (d-start)%r.Every == 0
	case "weekly":
		if (b.week-a.week)%r.Every != 0 {
			return false
		}
		return slices.Contains(r.Days, b.weekday) || len(r.Days) == 0 && a.weekday == b.weekday
	case "monthly":
		return a.day == b.day && months%r.Every == 0
	case "yearly":
		return a.day == b.day && months%(12*r.Every) == 0
	}
	return false
}

func wanted(start int, r api.Rule) []int {
	var list []int
	for d := start; d <= api.MaxDay; d++ {
		if r.Until != -1 && d > r.Until || r.Count > 0 && len(list) == r.Count {
			break
		}
		if isCandidate(start, r, d) {
			list = append(list, d)
		}
	}
	return list
}

func within(list []int, from, to int) []int {
	var out []int
	for _, d := range list {
		if d >= from && d <= to {
			out = append(out, d)
		}
	}
	return out
}

// TestDays holds P30's days of each kind, as texts that can be looked up in a calendar.
func TestDays(t *testing.T) {
	for _, c := range []struct{ start, rule, want string }{
		{"2000-01-08", "once", "2000-01-08"},
		{"2199-12-31", "once", "2199-12-31"},

		{"2000-02-27", "daily 1 count 4", "2000-02-27 2000-02-28 2000-02-29 2000-03-01"},
		{"2000-01-01", "daily 100 count 3", "2000-01-01 2000-04-10 2000-07-19"},
		{"2000-01-01", "daily 2 until 2000-01-05", "2000-01-01 2000-01-03 2000-01-05"},
		{"2000-01-01", "daily 2 until 2000-01-04", "2000-01-01 2000-01-03"},
		{"2000-01-01", "daily 1 until 2000-01-01", "2000-01-01"},
		{"2000-01-02", "daily 1 until 2000-01-01", ""},
		{"2199-12-30", "daily 1", "2199-12-30 2199-12-31"},
		{"2199-12-30", "daily 2 count 5", "2199-12-30"},
		{"2199-12-31", "daily 100", "2199-12-31"},

		// 2000-01-01 is a Saturday: its week has begun ahead of the first day.
		{"2000-01-01", "weekly 1 count 3", "2000-01-01 2000-01-08 2000-01-15"},
		{"2000-01-01", "weekly 1 mo count 2", "2000-01-03 2000-01-10"},
		{"2000-01-01", "weekly 2 mo count 2", "2000-01-10 2000-01-24"},
		{"2000-01-01", "weekly 2 mo,su count 4", "2000-01-02 2000-01-10 2000-01-16 2000-01-24"},
		{"2000-01-03", "weekly 2 mo,fr count 5", "2000-01-03 2000-01-07 2000-01-17 2000-01-21 2000-01-31"},
		{"2000-01-07", "weekly 2 mo,fr count 5", "2000-01-07 2000-01-17 2000-01-21 2000-01-31 2000-02-04"},
		{"2000-01-09", "weekly 3 tu,su until 2000-01-30", "2000-01-09 2000-01-25 2000-01-30"},
		{"2000-01-09", "weekly 3 tu,su until 2000-01-29", "2000-01-09 2000-01-25"},
		{"2000-01-08", "weekly 1 mo until 2000-01-09", ""},
		{"2199-12-20", "weekly 1 tu,we", "2199-12-24 2199-12-25 2199-12-31"},
		{"2199-12-31", "weekly 1 mo,we,su", ""},

		{"2000-01-31", "monthly 1 count 4", "2000-01-31 2000-03-31 2000-05-31 2000-07-31"},
		{"2000-01-30", "monthly 1 until 2000-04-29", "2000-01-30 2000-03-30"},
		{"2000-12-29", "monthly 2 count 3", "2000-12-29 2001-04-29 2001-06-29"},
		{"2000-11-15", "monthly 100 count 3", "2000-11-15 2009-03-15 2017-07-15"},
		{"2199-10-31", "monthly 1", "2199-10-31 2199-12-31"},
		{"2199-12-01", "monthly 1", "2199-12-01"},

		{"2000-08-01", "yearly 1 count 3", "2000-08-01 2001-08-01 2002-08-01"},
		{"2000-02-29", "yearly 1 count 3", "2000-02-29 2004-02-29 2008-02-29"},
		{"2000-02-29", "yearly 3 count 3", "2000-02-29 2012-02-29 2024-02-29"},
		{"2096-02-29", "yearly 1 until 2104-02-29", "2096-02-29 2104-02-29"},
		{"2096-02-29", "yearly 1 until 2104-02-28", "2096-02-29"},
		{"2000-12-31", "yearly 100", "2000-12-31 2100-12-31"},
		{"2100-01-01", "yearly 100", "2100-01-01"},
	} {
		got, err := expand.In(readDay(t, c.start), readRule(t, c.rule), 0, api.MaxDay)
		if err != nil || texts(got) != c.want {
			t.Errorf("%s %s: %s, %v; want %s", c.start, c.rule, texts(got), err, c.want)
		}
	}
}

var starts = []int{0, 1, 2, 8, 30, 59, 60, 305, 365, 1520, 36523, 36584, 70000, 73000, 73042, 73043, 73047, 73048}

var ruleTexts = []string{
	"once",
	"daily 1", "daily 2", "daily 7", "daily 99", "daily 100", "daily 1 count 1", "daily 3 count 1000", "daily 5 until 2000-01-01", "daily 5 until 2199-12-31", "daily 13 until 2110-05-05",
	"weekly 1", "weekly 2", "weekly 100", "weekly 1 mo", "weekly 1 mo,tu,we,th,fr,sa,su", "weekly 2 mo,su", "weekly 3 sa,su", "weekly 99 mo,we,fr", "weekly 2 tu,th count 7", "weekly 1 su count 1000", "weekly 4 fr until 2100-02-28",
	"monthly 1", "monthly 2", "monthly 11", "monthly 12", "monthly 100", "monthly 1 count 1000", "monthly 5 count 3", "monthly 7 until 2199-01-31",
	"yearly 1", "yearly 3", "yearly 4", "yearly 99", "yearly 100", "yearly 1 count 2", "yearly 2 until 2150-12-31",
}

// TestAgainstEachDay holds P31's four calls against a look at every day of the calendar.
func TestAgainstEachDay(t *testing.T) {
	for _, start := range starts {
		for _, text := range ruleTexts {
			r := readRule(t, text)
			want := wanted(start, r)
			if got := expand.Many(start, r); got != len(want) {
				t.Errorf("Many(%d, %s) = %d; want %d", start, text, got, len(want))
			}
			checkNth(t, start, r, want)
			checkIs(t, start, r, want)
			checkIn(t, start, r, want)
		}
	}
}

func checkNth(t *testing.T, start int, r api.Rule, want []int) {
	t.Helper()
	for _, n := range []int{0, 1, 2, 3, 50, 999, 1000, len(want) / 2, len(want) - 1} {
		if n < 0 || n >= len(want) {
			continue
		}
		if d, is := expand.Nth(start, r, n); d != want[n] || !is {
			t.Errorf("Nth(%d, %v, %d) = %d, %v; want %d", start, r, n, d, is, want[n])
		}
	}
	for _, n := range []int{len(want), len(want) + 1, -1, math.MinInt, math.MaxInt} {
		if d, is := expand.Nth(start, r, n); d != 0 || is {
			t.Errorf("Nth(%d, %v, %d) = %d, %v; want none", start, r, n, d, is)
		}
	}
}

func checkIs(t *testing.T, start int, r api.Rule, want []int) {
	t.Helper()
	asked := []int{-1, 0, start - 1, start, start + 1, start + 7, 40000, api.MaxDay, api.MaxDay + 1, math.MinInt, math.MaxInt}
	for i := 0; i < len(want); i += 1 + len(want)/8 {
		asked = append(asked, want[i]-1, want[i], want[i]+1)
	}
	if len(want) > 0 {
		asked = append(asked, want[len(want)-1], want[len(want)-1]+r.Every)
	}
	for _, d := range asked {
		if got := expand.Is(start, r, d); got != slices.Contains(want, d) {
			t.Errorf("Is(%d, %v, %d) = %v", start, r, d, got)
		}
	}
}

func checkIn(t *testing.T, start int, r api.Rule, all []int) {
	t.Helper()
	for _, span := range [][2]int{
		{start, start + 400}, {start + 1, start + 7}, {start, start}, {0, start}, {0, start - 1},
		{40000, 40999}, {70000, api.MaxDay}, {api.MaxDay, math.MaxInt}, {math.MinInt, 0},
	} {
		want, wantErr := within(all, span[0], span[1]), error(nil)
		if len(want) > api.MaxList {
			want, wantErr = nil, api.ErrFull
		}
		got, err := expand.In(start, r, span[0], span[1])
		if err != wantErr || !slices.Equal(got, want) {
			t.Errorf("In(%d, %v, %v): %d days, %v; want %d, %v", start, r, span, len(got), err, len(want), wantErr)
		}
	}
}

func TestInEdges(t *testing.T) {
	r := readRule(t, "daily 10")
	for _, c := range []struct {
		from, to int
		want     []int
	}{
		{5, 25, []int{5, 15, 25}},
		{6, 25, []int{15, 25}},
		{5, 24, []int{5, 15}},
		{15, 15, []int{15}},
		{16, 24, nil},
		{25, 5, nil},
		{math.MinInt, 5, []int{5}},
		{math.MinInt, math.MinInt, nil},
		{math.MaxInt, math.MinInt, nil},
		{73040, math.MaxInt, []int{73045}},
		{api.MaxDay + 1, math.MaxInt, nil},
	} {
		got, err := expand.In(5, r, c.from, c.to)
		if err != nil || !slices.Equal(got, c.want) {
			t.Errorf("%d to %d: %v, %v; want %v", c.from, c.to, got, err, c.want)
		}
	}
}

// TestFull holds that the days of the answer are counted, and not those ahead of it or behind it.
func TestFull(t *testing.T) {
	daily := readRule(t, "daily 1")
	for _, c := range []struct {
		rule     api.Rule
		from, to int
		many     int
		err      error
	}{
		{daily, 0, 999, 1000, nil},
		{daily, 0, 1000, 0, api.ErrFull},
		{daily, 50000, 50999, 1000, nil},
		{daily, 50000, 51000, 0, api.ErrFull},
		{daily, math.MinInt, math.MaxInt, 0, api.ErrFull},
		{daily, api.MaxDay - 999, math.MaxInt, 1000, nil},
		{daily, api.MaxDay - 1000, math.MaxInt, 0, api.ErrFull},
		{readRule(t, "daily 1 count 1000"), 0, api.MaxDay, 1000, nil},
		{readRule(t, "daily 1 until 2002-09-26"), 0, api.MaxDay, 1000, nil},
		{readRule(t, "daily 1 until 2002-09-27"), 0, api.MaxDay, 0, api.ErrFull},
	} {
		got, err := expand.In(0, c.rule, c.from, c.to)
		if len(got) != c.many || err != c.err {
			t.Errorf("%v, %d to %d: %d days, %v; want %d, %v", c.rule, c.from, c.to, len(got), err, c.many, c.err)
		}
	}
}

func TestNotWell(t *testing.T) {
	well := readRule(t, "daily 1")
	for _, c := range []struct {
		what  string
		start int
		rule  api.Rule
		err   error
	}{
		{"no Freq", 0, api.Rule{Every: 1, Until: -1}, api.ErrName},
		{"a Freq that there is not", 0, api.Rule{Freq: "hourly", Every: 1, Until: -1}, api.ErrName},
		{"Every 0", 0, api.Rule{Freq: "daily", Until: -1}, api.ErrBound},
		{"Every below 0", 0, api.Rule{Freq: "daily", Every: -1, Until: -1}, api.ErrBound},
		{"Every too great", 0, api.Rule{Freq: "monthly", Every: math.MaxInt, Until: -1}, api.ErrBound},
		{"Count below 0", 0, api.Rule{Freq: "daily", Every: 1, Count: -1, Until: -1}, api.ErrBound},
		{"Until below -1", 0, api.Rule{Freq: "daily", Every: 1, Until: -2}, api.ErrBound},
		{"a weekday that there is not", 0, api.Rule{Freq: "weekly", Every: 1, Days: []int{7}, Until: -1}, api.ErrBound},
		{"Count and Until", 0, api.Rule{Freq: "daily", Every: 1, Count: 1, Until: 5}, api.ErrShape},
		{"days of daily", 0, api.Rule{Freq: "daily", Every: 1, Days: []int{0}, Until: -1}, api.ErrShape},
		{"weekdays that fall", 0, api.Rule{Freq: "weekly", Every: 1, Days: []int{3, 1}, Until: -1}, api.ErrOrder},
		{"a start ahead", -1, well, api.ErrBound},
		{"a start behind", api.MaxDay + 1, well, api.ErrBound},
		{"a start far ahead", math.MinInt, well, api.ErrBound},
		{"a start far behind", math.MaxInt, well, api.ErrBound},
		{"the rule ahead of the start", -1, api.Rule{Freq: "weekly", Every: 1, Days: []int{3, 1}, Until: -1}, api.ErrOrder},
		{"the rule's name ahead of the start", -1, api.Rule{}, api.ErrName},
	} {
		for _, span := range [][2]int{{0, 100}, {100, 0}, {math.MinInt, math.MaxInt}} {
			if list, err := expand.In(c.start, c.rule, span[0], span[1]); len(list) > 0 || err != c.err {
				t.Errorf("%s: In = %v, %v; want %v", c.what, list, err, c.err)
			}
		}
		if d, is := expand.Nth(c.start, c.rule, 0); d != 0 || is {
			t.Errorf("%s: Nth = %d, %v", c.what, d, is)
		}
		if expand.Is(c.start, c.rule, c.start) || expand.Is(c.start, c.rule, 0) {
			t.Errorf("%s: Is", c.what)
		}
		if many := expand.Many(c.start, c.rule); many != 0 {
			t.Errorf("%s: Many = %d", c.what, many)
		}
	}
}

// TestOfAllFreqsNoStart holds that no Freq takes a start that is no day.
func TestOfAllFreqsNoStart(t *testing.T) {
	for _, text := range ruleTexts {
		r := readRule(t, text)
		for _, start := range []int{-1, -7, api.MaxDay + 1, math.MinInt, math.MaxInt} {
			_, err := expand.In(start, r, math.MinInt, math.MaxInt)
			if _, is := expand.Nth(start, r, 0); is || err != api.ErrBound || expand.Many(start, r) != 0 || expand.Is(start, r, start) {
				t.Errorf("%s from %d: %v", text, start, err)
			}
		}
	}
}

func allOf(t *testing.T, start int, r api.Rule) []int {
	t.Helper()
	var list []int
	for from := 0; from <= api.MaxDay; from += api.MaxList {
		part, err := expand.In(start, r, from, from+api.MaxList-1)
		if err != nil {
			t.Fatal(start, r, err)
		}
		list = append(list, part...)
	}
	return list
}

// TestRise holds P32's first half; days that are told twice would not rise.
func TestRise(t *testing.T) {
	for _, start := range []int{0, 30, 59, 73043} {
		for _, text := range ruleTexts {
			list := allOf(t, start, readRule(t, text))
			for i := range list {
				if list[i] < start || list[i] > api.MaxDay || i > 0 && list[i-1] >= list[i] {
					t.Errorf("%s from %d: %d behind %v", text, start, list[i], list[max(0, i-1)])
				}
			}
		}
	}
}

// TestFewer holds P32's second half: each Every-th of an Every leaves some of its days, and brings none.
func TestFewer(t *testing.T) {
	for _, start := range []int{0, 1, 30, 59, 366} {
		for _, freq := range []string{"daily", "weekly", "monthly", "yearly"} {
			for _, every := range []int{1, 2, 7, 12} {
				base := api.Rule{Freq: freq, Every: every, Until: -1}
				list := allOf(t, start, base)
				for _, times := range []int{2, 3, 8} {
					r := base
					r.Every *= times
					fewer := allOf(t, start, r)
					if len(fewer) > len(list) || len(fewer) == len(list) && dates[start].day < 29 {
						t.Errorf("%d: %v has %d, each %d-th %d", start, base, len(list), times, len(fewer))
					}
					for _, d := range fewer {
						if _, found := slices.BinarySearch(list, d); !found {
							t.Errorf("%d: %v has %d, Every %d not", start, r, d, every)
						}
					}
				}
			}
		}
	}
}

// TestOnlyRead holds that the rule's weekdays stay as they are, and so does what lies behind them.
func TestOnlyRead(t *testing.T) {
	memory := []int{0, 4, 5, 6}
	r := api.Rule{Freq: "weekly", Every: 1, Days: memory[:2], Until: -1}
	list, err := expand.In(0, r, 0, 14)
	if err != nil || !slices.Equal(list, []int{2, 6, 9, 13}) {
		t.Error(list, err)
	}
	expand.Nth(0, r, 5)
	expand.Is(0, r, 9)
	expand.Many(0, r)
	if !slices.Equal(memory, []int{0, 4, 5, 6}) {
		t.Error(memory)
	}
	list[0] = 99
	if again, _ := expand.In(0, r, 0, 14); !slices.Equal(again, []int{2, 6, 9, 13}) {
		t.Error(again)
	}
}

func TestEmptyDaysAreNone(t *testing.T) {
	for _, list := range [][]int{nil, {}} {
		r := api.Rule{Freq: "weekly", Every: 1, Days: list, Count: 2, Until: -1}
		if got, err := expand.In(4, r, 0, 100); err != nil || !slices.Equal(got, []int{4, 11}) {
			t.Error(got, err)
		}
	}
}

func TestDaysAsLongAsAskedFor(t *testing.T) {
	memory := []int{0, 4}
	seq := expand.Days(2, api.Rule{Freq: "weekly", Every: 1, Days: memory, Until: -1})
	memory[1] = 99
	for range 2 {
		var got []int
		for d := range seq {
			got = append(got, d)
			if len(got) == 4 {
				break
			}
		}
		if !slices.Equal(got, []int{2, 6, 9, 13}) {
			t.Error(got)
		}
	}
	for d := range expand.Days(-1, readRule(t, "daily 1")) {
		t.Error(d)
	}
	for d := range expand.Days(0, api.Rule{}) {
		t.Error(d)
	}
}
