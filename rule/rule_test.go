package rule_test

import (
	"math"
	"slices"
	"strconv"
	"strings"
	"testing"

	"lammastide/api"
	"lammastide/day"
	"lammastide/rule"
)

// plainRule is well for any Freq.
func plainRule(freq string) api.Rule {
	return api.Rule{Freq: freq, Every: 1, Until: -1}
}

func changed(freq string, change func(r *api.Rule)) api.Rule {
	r := plainRule(freq)
	change(&r)
	return r
}

var freqs = []string{"once", "daily", "weekly", "monthly", "yearly"}

var written = []struct {
	text string
	rule api.Rule
}{
	{"once", plainRule("once")},
	{"daily 1", plainRule("daily")},
	{"daily 100", api.Rule{Freq: "daily", Every: 100, Until: -1}},
	{"daily 10 count 1", api.Rule{Freq: "daily", Every: 10, Count: 1, Until: -1}},
	{"weekly 2 mo,fr count 5", api.Rule{Freq: "weekly", Every: 2, Days: []int{0, 4}, Count: 5, Until: -1}},
	{"weekly 1 su", api.Rule{Freq: "weekly", Every: 1, Days: []int{6}, Until: -1}},
	{"weekly 1 mo,tu,we,th,fr,sa,su", api.Rule{Freq: "weekly", Every: 1, Days: []int{0, 1, 2, 3, 4, 5, 6}, Until: -1}},
	{"weekly 7 tu,th,sa until 2199-12-31", api.Rule{Freq: "weekly", Every: 7, Days: []int{1, 3, 5}, Until: api.MaxDay}},
	{"weekly 3 count 1000", api.Rule{Freq: "weekly", Every: 3, Count: 1000, Until: -1}},
	{"weekly 1 until 2000-01-01", api.Rule{Freq: "weekly", Every: 1}},
	{"monthly 3 until 2000-02-29", api.Rule{Freq: "monthly", Every: 3, Until: 59}},
	{"yearly 1 count 20", api.Rule{Freq: "yearly", Every: 1, Count: 20, Until: -1}},
}

func TestWritten(t *testing.T) {
	for _, c := range written {
		if err := rule.Check(c.rule); err != nil {
			t.Errorf("Check(%v) = %v", c.rule, err)
		}
		if got := rule.Text(c.rule); got != c.text {
			t.Errorf("Text(%v) = %q; want %q", c.rule, got, c.text)
		}
		got, err := rule.Read(c.text)
		if err != nil || !isEqual(got, c.rule) {
			t.Errorf("Read(%q) = %v, %v; want %v", c.text, got, err, c.rule)
		}
		if len(c.rule.Days) == 0 && got.Days != nil {
			t.Errorf("Read(%q): Days are not nil", c.text)
		}
	}
}

// isEqual stands beside rule.Same, so that a fault of it does not hide one of Read.
func isEqual(a, b api.Rule) bool {
	return a.Freq == b.Freq && a.Every == b.Every && a.Count == b.Count && a.Until == b.Until && slices.Equal(a.Days, b.Days)
}

func TestCheckTakesEdges(t *testing.T) {
	for _, freq := range freqs {
		rules := []api.Rule{plainRule(freq), changed(freq, func(r *api.Rule) { r.Days = []int{} })}
		if freq != "once" {
			rules = append(rules,
				changed(freq, func(r *api.Rule) { r.Every = api.MaxEvery }),
				changed(freq, func(r *api.Rule) { r.Count = 1 }),
				changed(freq, func(r *api.Rule) { r.Count = api.MaxCount }),
				changed(freq, func(r *api.Rule) { r.Until = 0 }),
				changed(freq, func(r *api.Rule) { r.Until = api.MaxDay }))
		}
		for _, r := range rules {
			if err := rule.Check(r); err != nil {
				t.Errorf("Check(%v) = %v", r, err)
			}
		}
	}
	for d := range 7 {
		if err := rule.Check(api.Rule{Freq: "weekly", Every: 1, Days: []int{d}, Until: -1}); err != nil {
			t.Errorf("weekday %d: %v", d, err)
		}
	}
}

// refuses: Check tells the error itself, and Text is empty.
func refuses(t *testing.T, r api.Rule, want error) {
	t.Helper()
	if err := rule.Check(r); err != want {
		t.Errorf("Check(%v) = %v; want %v", r, err, want)
	}
	if got := rule.Text(r); got != "" {
		t.Errorf("Text(%v) = %q; want it empty", r, got)
	}
}

func TestCheckNames(t *testing.T) {
	for _, freq := range []string{"", "hourly", "Once", "ONCE", "once ", " daily", "weekl", "weeklyy", "yearly\x00", "\xff", "1"} {
		refuses(t, plainRule(freq), api.ErrName)
	}
	refuses(t, api.Rule{}, api.ErrName)
}

func TestCheckBounds(t *testing.T) {
	for _, freq := range freqs {
		for _, n := range []int{0, -1, api.MaxEvery + 1, math.MinInt, math.MaxInt} {
			refuses(t, changed(freq, func(r *api.Rule) { r.Every = n }), api.ErrBound)
		}
		for _, n := range []int{-1, api.MaxCount + 1, math.MinInt, math.MaxInt} {
			refuses(t, changed(freq, func(r *api.Rule) { r.Count = n }), api.ErrBound)
		}
		for _, n := range []int{-2, api.MaxDay + 1, math.MinInt, math.MaxInt} {
			refuses(t, changed(freq, func(r *api.Rule) { r.Until = n }), api.ErrBound)
		}
		for _, days := range [][]int{{-1}, {7}, {0, 7}, {-1, 0}, {0, 1, 2, 3, 4, 5, 6, 7}, {math.MinInt}, {math.MaxInt}} {
			refuses(t, changed(freq, func(r *api.Rule) { r.Days = days }), api.ErrBound)
		}
	}
}

func TestCheckShapes(t *testing.T) {
	refuses(t, changed("once", func(r *api.Rule) { r.Every = 2 }), api.ErrShape)
	refuses(t, changed("once", func(r *api.Rule) { r.Count = 1 }), api.ErrShape)
	refuses(t, changed("once", func(r *api.Rule) { r.Until = 0 }), api.ErrShape)
	for _, freq := range freqs {
		if freq != "weekly" {
			refuses(t, changed(freq, func(r *api.Rule) { r.Days = []int{0} }), api.ErrShape)
		}
		refuses(t, changed(freq, func(r *api.Rule) { r.Count, r.Until = 1, 0 }), api.ErrShape)
		refuses(t, changed(freq, func(r *api.Rule) { r.Count, r.Until = api.MaxCount, api.MaxDay }), api.ErrShape)
	}
}

func TestCheckOrder(t *testing.T) {
	for _, days := range [][]int{{0, 0}, {6, 6}, {1, 0}, {0, 2, 1}, {0, 1, 1}, {6, 0}, {0, 1, 2, 3, 4, 5, 6, 6}, {0, 1, 2, 3, 4, 5, 6, 0}} {
		refuses(t, changed("weekly", func(r *api.Rule) { r.Days = days }), api.ErrOrder)
	}
}

func TestCheckTellsTheFirst(t *testing.T) {
	refuses(t, api.Rule{Freq: "hourly", Every: 0, Days: []int{9, 8}, Count: 1, Until: 0}, api.ErrName)
	refuses(t, api.Rule{Freq: "once", Every: 0, Count: 1, Until: -1}, api.ErrBound)
	refuses(t, api.Rule{Freq: "once", Every: 2, Until: api.MaxDay + 1}, api.ErrBound)
	refuses(t, api.Rule{Freq: "daily", Every: 1, Days: []int{7}, Until: -1}, api.ErrBound)
	refuses(t, api.Rule{Freq: "weekly", Every: 1, Days: []int{3, 2, 7}, Until: -1}, api.ErrBound)
	refuses(t, api.Rule{Freq: "weekly", Every: 1, Count: api.MaxCount + 1, Until: 0}, api.ErrBound)
	refuses(t, api.Rule{Freq: "daily", Every: 1, Days: []int{2, 1}, Until: -1}, api.ErrShape)
	refuses(t, api.Rule{Freq: "weekly", Every: 1, Days: []int{2, 1}, Count: 1, Until: 1}, api.ErrShape)
}

// readRefuses: Read tells the error itself, and a rule of zeros.
func readRefuses(t *testing.T, s string, want error) {
	t.Helper()
	r, err := rule.Read(s)
	if err != want {
		t.Errorf("Read(%.60q) = %v; want %v", s, err, want)
	}
	if r.Freq != "" || r.Every != 0 || len(r.Days) != 0 || r.Count != 0 || r.Until != 0 {
		t.Errorf("Read(%.60q) tells %v beside its error", s, r)
	}
}

func TestReadRefusesText(t *testing.T) {
	for _, s := range []string{
		"", " ", "  ", "|", "hourly", "hourly 1", "Daily 1", "once ", " once", "once 1", "once 0", "once mo", "once count 1", "once until 2000-01-01", "onc", "once once",
		"daily", "daily ", " daily 1", "daily 1 ", "daily  1", "daily\t1", "daily\n1", "daily,1", "daily 1\n", "daily1",
		"daily 01", "daily 00", "daily -1", "daily -0", "daily +1", "daily 1.0", "daily 0x1", "daily 1_0", "daily x", "daily 1x", "daily ١", "daily 1234567890", "daily 0000000001", "daily 18446744073709551617", "daily mo", "daily count 1", "daily until 2000-01-01",
		"weekly 1 ,", "weekly 1 mo,", "weekly 1 ,mo", "weekly 1 mo,,tu", "weekly 1 mo, tu", "weekly 1 mo tu", "weekly 1 mo,tu we", "weekly 1 xx", "weekly 1 MO", "weekly 1 mon", "weekly 1 m", "weekly 1 mo,xx", "weekly 1 0", "weekly 1 mo;tu", "weekly mo 1",
		"weekly 1 count", "weekly 1 count ", "weekly 1 count 0", "weekly 1 count 00", "weekly 1 count 05", "weekly 1 count -1", "weekly 1 count x", "weekly 1 count 1234567890", "weekly 1 count 1 mo", "weekly 1 count 1 2", "weekly 1 count 1 count 1", "weekly 1 count 1 ", "weekly 1 count count 1", "weekly 1 mo count", "weekly 1 Count 1", "weekly 1 count5", "weekly 1 5",
		"weekly 1 until", "weekly 1 until ", "weekly 1 until 5", "weekly 1 until 2000-1-1", "weekly 1 until 2000-01-011", "weekly 1 until 2000/01/01", "weekly 1 until 2000-01-01 ", "weekly 1 until 2000-01-01 mo", "weekly 1 until 2000-01-01 count 1", "weekly 1 until 2000-01-01 until 2000-01-01", "weekly 1 mo until", "weekly 1 count until 2000-01-01", "weekly 1 2000-01-01", "weekly 1 count 1 until",
	} {
		readRefuses(t, s, api.ErrText)
	}
}

func TestReadTellsCheck(t *testing.T) {
	for s, want := range map[string]error{
		"daily 0": api.ErrBound, "daily 101": api.ErrBound, "daily 123456789": api.ErrBound, "daily 999999999": api.ErrBound,
		"daily 1 count 1001": api.ErrBound, "daily 1 count 999999999": api.ErrBound,
		"weekly 1 until 2000-13-01": api.ErrBound, "weekly 1 until 1999-12-31": api.ErrBound, "weekly 1 until 2200-01-01": api.ErrBound, "weekly 1 until 2001-02-29": api.ErrBound, "weekly 1 until 0000-00-00": api.ErrBound,
		"daily 1 mo": api.ErrShape, "monthly 1 mo,tu": api.ErrShape, "yearly 1 su count 2": api.ErrShape, "daily 1 count 1 until 2000-01-01": api.ErrShape, "weekly 1 mo count 1000 until 2199-12-31": api.ErrShape,
		"weekly 1 tu,mo": api.ErrOrder, "weekly 1 mo,mo": api.ErrOrder, "weekly 1 mo,tu,we,th,fr,sa,su,mo": api.ErrOrder, "weekly 1 su,mo count 5": api.ErrOrder,
	} {
		readRefuses(t, s, want)
	}
}

func TestReadTellsTheFirst(t *testing.T) {
	for s, want := range map[string]error{
		"daily 0 x":                                      api.ErrText,
		"daily 0 mo,xx":                                  api.ErrText,
		"daily 101 count 0":                              api.ErrText,
		"weekly 1 until 2000-13-01 x":                    api.ErrText,
		"weekly 1 until 2000-13-01 ":                     api.ErrText,
		"weekly 1 tu,mo until 2000-1-1":                  api.ErrText,
		"daily 1 mo until 2000-13-01":                    api.ErrBound,
		"daily 1 count 1 until 2000-13-01":               api.ErrBound,
		"weekly 0 tu,mo":                                 api.ErrBound,
		"weekly 1 tu,mo count 1001 until 2000-01-01":     api.ErrBound,
		"daily 1 tu,mo":                                  api.ErrShape,
		"weekly 1 tu,mo count 1 until 2000-01-01":        api.ErrShape,
		"weekly 1 " + strings.Repeat("mo,", 5000) + "mo": api.ErrOrder,
		"weekly 1 " + strings.Repeat("mo,", 5000):        api.ErrText,
		"daily " + strings.Repeat("1", 5000):             api.ErrText,
	} {
		readRefuses(t, s, want)
	}
}

// TestWellTextsAreTheOnlyOnes: a text that is near a good one, and is read, is its rule's own.
func TestWellTextsAreTheOnlyOnes(t *testing.T) {
	for _, c := range written {
		for i := range len(c.text) {
			for _, put := range []string{"", " ", "  ", ",", "0", "1", "-", "o", "mo", "x", "\x00", "\xff"} {
				for _, s := range []string{c.text[:i] + put + c.text[i:], c.text[:i] + put + c.text[i+1:]} {
					r, err := rule.Read(s)
					if err == nil && rule.Text(r) != s {
						t.Errorf("Read(%q) = %v, which is %q", s, r, rule.Text(r))
					}
					if err != nil && !isEqual(r, api.Rule{}) {
						t.Errorf("Read(%q) tells %v beside %v", s, r, err)
					}
				}
			}
		}
	}
}

func TestSame(t *testing.T) {
	whole := api.Rule{Freq: "weekly", Every: 2, Days: []int{1, 3}, Count: 4, Until: 5}
	like := func(change func(r *api.Rule)) api.Rule {
		r := whole
		change(&r)
		return r
	}
	if !rule.Same(whole, like(func(r *api.Rule) { r.Days = []int{1, 3} })) {
		t.Error("two of the same are told apart")
	}
	for i, r := range []api.Rule{
		{},
		like(func(r *api.Rule) { r.Freq = "daily" }),
		like(func(r *api.Rule) { r.Every = 3 }),
		like(func(r *api.Rule) { r.Count = 0 }),
		like(func(r *api.Rule) { r.Until = -1 }),
		like(func(r *api.Rule) { r.Days = nil }),
		like(func(r *api.Rule) { r.Days = []int{1} }),
		like(func(r *api.Rule) { r.Days = []int{1, 4} }),
		like(func(r *api.Rule) { r.Days = []int{3, 1} }),
		like(func(r *api.Rule) { r.Days = []int{1, 3, 5} }),
	} {
		if rule.Same(whole, r) || rule.Same(r, whole) {
			t.Errorf("%d: %v is told to be %v", i, r, whole)
		}
		if !rule.Same(r, r) {
			t.Errorf("%d: %v is told not to be itself", i, r)
		}
	}
	if !rule.Same(api.Rule{Days: nil}, api.Rule{Days: []int{}}) || !rule.Same(api.Rule{Days: []int{}}, api.Rule{Days: nil}) {
		t.Error("a nil list and an empty one are told apart")
	}
}

// TestReadAsWritten: P22, for all weekdays, and for the numbers at and about the bounds.
func TestReadAsWritten(t *testing.T) {
	texts := map[string]api.Rule{}
	for _, freq := range freqs {
		for _, every := range []int{1, 2, 9, 10, 11, 99, 100} {
			for set := range 1 << 7 {
				for _, end := range [][2]int{{0, -1}, {1, -1}, {9, -1}, {10, -1}, {999, -1}, {1000, -1}, {0, 0}, {0, 59}, {0, 36524}, {0, api.MaxDay}} {
					r := api.Rule{Freq: freq, Every: every, Days: daysOf(set), Count: end[0], Until: end[1]}
					if rule.Check(r) != nil {
						continue
					}
					s := rule.Text(r)
					if got, err := rule.Read(s); err != nil || !isEqual(got, r) || !rule.Same(got, r) {
						t.Fatalf("%v is written %q, and read %v, %v", r, s, got, err)
					}
					if other, is := texts[s]; is {
						t.Fatalf("%v and %v are both written %q", r, other, s)
					}
					texts[s] = r
				}
			}
		}
	}
	if want := 1 + 3*7*10 + 7*128*10; len(texts) != want {
		t.Errorf("%d rules are well; want %d", len(texts), want)
	}
}

func daysOf(set int) []int {
	var days []int
	for d := range 7 {
		if set>>d&1 == 1 {
			days = append(days, d)
		}
	}
	return days
}

func TestAllNumbersAreReadAsWritten(t *testing.T) {
	for n := 1; n <= api.MaxCount; n++ {
		r := api.Rule{Freq: "daily", Every: (n-1)%api.MaxEvery + 1, Count: n, Until: -1}
		s := "daily " + strconv.Itoa(r.Every) + " count " + strconv.Itoa(n)
		if got, err := rule.Read(s); err != nil || !isEqual(got, r) || rule.Text(r) != s {
			t.Fatalf("Read(%q) = %v, %v; Text %q", s, got, err, rule.Text(r))
		}
	}
	for n := 0; n <= api.MaxDay; n += 13 {
		r := api.Rule{Freq: "yearly", Every: 1, Until: n}
		s := "yearly 1 until " + day.Text(n)
		if got, err := rule.Read(s); err != nil || !isEqual(got, r) || rule.Text(r) != s {
			t.Fatalf("Read(%q) = %v, %v; Text %q", s, got, err, rule.Text(r))
		}
	}
}

func TestNothingIsSharedOrChanged(t *testing.T) {
	memory := []int{0, 4, 6, 99}
	r := api.Rule{Freq: "weekly", Every: 1, Days: memory[:2], Until: -1}
	if got := rule.Text(r); got != "weekly 1 mo,fr" || rule.Check(r) != nil || !rule.Same(r, r) {
		t.Errorf("what lies behind the length of Days is read: %q", got)
	}
	if !slices.Equal(memory, []int{0, 4, 6, 99}) {
		t.Errorf("Days are changed: %v", memory)
	}
	first, _ := rule.Read("weekly 1 mo,fr")
	first.Days[0] = 3
	_ = append(first.Days[:1], 5)
	if second, _ := rule.Read("weekly 1 mo,fr"); !slices.Equal(second.Days, []int{0, 4}) {
		t.Errorf("two answers share Days: %v", second.Days)
	}
}

func FuzzRead(f *testing.F) {
	for _, c := range written {
		f.Add(c.text)
	}
	f.Fuzz(func(t *testing.T, s string) {
		r, err := rule.Read(s)
		if err == nil && rule.Text(r) != s {
			t.Errorf("Read(%q) = %v, which is %q", s, r, rule.Text(r))
		}
		if err != nil && !isEqual(r, api.Rule{}) {
			t.Errorf("Read(%q) tells %v beside %v", s, r, err)
		}
	})
}
