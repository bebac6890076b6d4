package day_test

import (
	"math"
	"testing"

	"lammastide/api"
	"lammastide/day"
)

var known = []struct {
	y, m, d, n, week int
	text             string
}{
	{2000, 1, 1, 0, 5, "2000-01-01"},
	{2000, 2, 29, 59, 1, "2000-02-29"},
	{2000, 3, 1, 60, 2, "2000-03-01"},
	{2000, 12, 31, 365, 6, "2000-12-31"},
	{2001, 1, 1, 366, 0, "2001-01-01"},
	{2001, 2, 28, 424, 2, "2001-02-28"},
	{2001, 3, 1, 425, 3, "2001-03-01"},
	{2004, 2, 29, 1520, 6, "2004-02-29"},
	{2026, 11, 17, 9817, 1, "2026-11-17"},
	{2099, 12, 31, 36524, 3, "2099-12-31"},
	{2100, 2, 28, 36583, 6, "2100-02-28"},
	{2100, 3, 1, 36584, 0, "2100-03-01"},
	{2100, 12, 31, 36889, 4, "2100-12-31"},
	{2196, 2, 29, 71647, 0, "2196-02-29"},
	{2199, 12, 31, api.MaxDay, 1, "2199-12-31"},
}

var noDays = []int{-1, api.MaxDay + 1, math.MinInt, math.MaxInt}

func TestKnownDays(t *testing.T) {
	for _, c := range known {
		if n, err := day.Make(c.y, c.m, c.d); n != c.n || err != nil {
			t.Errorf("Make(%d, %d, %d) = %d, %v; want %d", c.y, c.m, c.d, n, err, c.n)
		}
		if y, m, d, err := day.Date(c.n); y != c.y || m != c.m || d != c.d || err != nil {
			t.Errorf("Date(%d) = %d, %d, %d, %v", c.n, y, m, d, err)
		}
		if w, err := day.Week(c.n); w != c.week || err != nil {
			t.Errorf("Week(%d) = %d, %v; want %d", c.n, w, err, c.week)
		}
		if s := day.Text(c.n); s != c.text {
			t.Errorf("Text(%d) = %q; want %q", c.n, s, c.text)
		}
		if n, err := day.Read(c.text); n != c.n || err != nil {
			t.Errorf("Read(%q) = %d, %v; want %d", c.text, n, err, c.n)
		}
	}
}

func TestMonths(t *testing.T) {
	long := []int{31, 28, 31, 30, 31, 30, 31, 31, 30, 31, 30, 31}
	for y := api.FirstYear; y <= api.LastYear; y++ {
		for m := 1; m <= 12; m++ {
			want := long[m-1]
			if m == 2 && y%4 == 0 && y != 2100 {
				want = 29
			}
			if got := day.Months(y, m); got != want {
				t.Errorf("Months(%d, %d) = %d; want %d", y, m, got, want)
			}
		}
	}
	for _, c := range [][2]int{{2000, 0}, {2000, 13}, {2000, -1}, {2000, math.MaxInt}, {2000, math.MinInt}, {1999, 12}, {2200, 1}, {0, 1}, {math.MaxInt, 1}, {math.MinInt, 1}} {
		if got := day.Months(c[0], c[1]); got != 0 {
			t.Errorf("Months(%d, %d) = %d; want 0", c[0], c[1], got)
		}
	}
}

func TestMakeRefuses(t *testing.T) {
	for _, c := range [][3]int{
		{1999, 12, 31}, {2200, 1, 1}, {0, 1, 1}, {-2000, 1, 1}, {math.MaxInt, 1, 1}, {math.MinInt, 1, 1},
		{2000, 0, 1}, {2000, 13, 1}, {2000, -1, 1}, {2000, math.MaxInt, 1}, {2000, math.MinInt, 1},
		{2000, 1, 0}, {2000, 1, 32}, {2000, 1, -1}, {2000, 1, math.MaxInt}, {2000, 1, math.MinInt},
		{2000, 2, 30}, {2001, 2, 29}, {2100, 2, 29}, {2000, 4, 31}, {2199, 12, 32},
		{2000, 13, 0}, {2200, 0, 0},
	} {
		if n, err := day.Make(c[0], c[1], c[2]); n != 0 || err != api.ErrBound {
			t.Errorf("Make(%d, %d, %d) = %d, %v", c[0], c[1], c[2], n, err)
		}
	}
}

func TestNoDay(t *testing.T) {
	for _, n := range noDays {
		if y, m, d, err := day.Date(n); y != 0 || m != 0 || d != 0 || err != api.ErrBound {
			t.Errorf("Date(%d) = %d, %d, %d, %v", n, y, m, d, err)
		}
		if w, err := day.Week(n); w != 0 || err != api.ErrBound {
			t.Errorf("Week(%d) = %d, %v", n, w, err)
		}
		if s := day.Text(n); s != "" {
			t.Errorf("Text(%d) = %q", n, s)
		}
		for _, months := range []int{0, 1, -1, math.MaxInt, math.MinInt} {
			if k, is := day.Add(n, months); k != 0 || is {
				t.Errorf("Add(%d, %d) = %d, %v", n, months, k, is)
			}
		}
	}
}

func TestReadRefuses(t *testing.T) {
	for _, c := range []struct {
		s    string
		want error
	}{
		{"", api.ErrText}, {"2000-01-1", api.ErrText}, {"2000-01-011", api.ErrText}, {"2000-1-01", api.ErrText},
		{"02000-01-01", api.ErrText}, {" 2000-01-01", api.ErrText}, {"2000-01-01 ", api.ErrText}, {"2000-01-01\n", api.ErrText},
		{"2000/01/01", api.ErrText}, {"2000-01/01", api.ErrText}, {"2000/01-01", api.ErrText}, {"20000101--", api.ErrText},
		{"200-001-01", api.ErrText}, {"2000-001-1", api.ErrText}, {"----------", api.ErrText}, {"0123456789", api.ErrText},
		{"+200-01-01", api.ErrText}, {"-200-01-01", api.ErrText}, {"2000-+1-01", api.ErrText}, {"2000-01--1", api.ErrText},
		{"2000-01-0x", api.ErrText}, {"x000-01-01", api.ErrText}, {"2000-01-0:", api.ErrText}, {"2000-01-0/", api.ErrText},
		{"2000-01-\xd9\xa1", api.ErrText}, {"2000-01-0١", api.ErrText}, {"2000-01-0\x00", api.ErrText}, {"9999-99-9x", api.ErrText},
		{"0000-00-00", api.ErrBound}, {"9999-99-99", api.ErrBound}, {"1999-12-31", api.ErrBound}, {"2200-01-01", api.ErrBound},
		{"2000-00-01", api.ErrBound}, {"2000-13-01", api.ErrBound}, {"2000-01-00", api.ErrBound}, {"2000-01-32", api.ErrBound},
		{"2000-02-30", api.ErrBound}, {"2001-02-29", api.ErrBound}, {"2100-02-29", api.ErrBound},
	} {
		if n, err := day.Read(c.s); n != 0 || err != c.want {
			t.Errorf("Read(%q) = %d, %v; want %v", c.s, n, err, c.want)
		}
	}
}

func TestAdd(t *testing.T) {
	for _, c := range []struct {
		from   string
		months int
		to     string // empty: there is none
	}{
		{"2000-05-31", 0, "2000-05-31"},
		{"2000-01-15", 1, "2000-02-15"},
		{"2000-12-15", 1, "2001-01-15"},
		{"2001-01-15", -1, "2000-12-15"},
		{"2001-01-15", -12, "2000-01-15"},
		{"2000-01-31", 1, ""},
		{"2000-01-31", 2, "2000-03-31"},
		{"2000-03-31", -1, ""},
		{"2000-01-29", 1, "2000-02-29"},
		{"2001-01-29", 1, ""},
		{"2000-02-29", 12, ""},
		{"2000-02-29", 48, "2004-02-29"},
		{"2096-02-29", 48, ""},
		{"2096-02-29", 96, "2104-02-29"},
		{"2000-01-01", -1, ""},
		{"2000-12-01", -11, "2000-01-01"},
		{"2000-12-01", -12, ""},
		{"2199-12-31", 1, ""},
		{"2199-01-31", 11, "2199-12-31"},
		{"2000-01-31", 2399, "2199-12-31"},
		{"2000-01-31", 2400, ""},
		{"2199-12-31", -2399, "2000-01-31"},
		{"2199-12-31", -2400, ""},
		{"2000-01-01", math.MaxInt, ""},
		{"2000-01-01", math.MinInt, ""},
		{"2199-12-31", math.MaxInt, ""},
		{"2199-12-31", math.MinInt, ""},
	} {
		n, err := day.Read(c.from)
		if err != nil {
			t.Fatal(c.from, err)
		}
		k, is := day.Add(n, c.months)
		if is != (c.to != "") || is && day.Text(k) != c.to || !is && k != 0 {
			t.Errorf("Add(%s, %d) = %d (%s), %v; want %q", c.from, c.months, k, day.Text(k), is, c.to)
		}
	}
}

// Held against a walk by single months, for all distances that stay within the years and a few that do not.
func TestAddGoesMonthByMonth(t *testing.T) {
	for n := 0; n <= api.MaxDay; n += 1009 {
		y, m, d, _ := day.Date(n)
		before := (y-2000)*12 + m - 1
		year, month := 1999, 10
		for at := -3; at < 2403; at++ {
			want, err := day.Make(year, month, d)
			k, is := day.Add(n, at-before)
			if k != want || is != (err == nil) {
				t.Fatalf("Add(%d, %d) = %d, %v; want %d, %v", n, at-before, k, is, want, err)
			}
			if month++; month > 12 {
				year, month = year+1, 1
			}
		}
	}
}

// P12: every day's date leads back to it, is the one behind the day ahead's, and so is its weekday.
func TestAlways(t *testing.T) {
	n := 0
	for y := api.FirstYear; y <= api.LastYear; y++ {
		for m := 1; m <= 12; m++ {
			for d := 1; d <= day.Months(y, m); d++ {
				checkDay(t, n, y, m, d)
				n++
			}
		}
	}
	if n != api.MaxDay+1 {
		t.Errorf("%d days; want %d", n, api.MaxDay+1)
	}
}

func checkDay(t *testing.T, n, y, m, d int) {
	t.Helper()
	gy, gm, gd, err := day.Date(n)
	if gy != y || gm != m || gd != d || err != nil {
		t.Fatalf("Date(%d) = %d, %d, %d, %v; want %d, %d, %d", n, gy, gm, gd, err, y, m, d)
	}
	if k, err := day.Make(y, m, d); k != n || err != nil {
		t.Fatalf("Make(%d, %d, %d) = %d, %v; want %d", y, m, d, k, err, n)
	}
	if k, err := day.Read(day.Text(n)); k != n || err != nil {
		t.Fatalf("Read(Text(%d)) = %d, %v", n, k, err)
	}
	if w, err := day.Week(n); w != (5+n)%7 || err != nil {
		t.Fatalf("Week(%d) = %d, %v", n, w, err)
	}
	if k, is := day.Add(n, 0); k != n || !is {
		t.Fatalf("Add(%d, 0) = %d, %v", n, k, is)
	}
}
