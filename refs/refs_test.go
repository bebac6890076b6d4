package refs_test

import (
	"math"
	"slices"
	"strconv"
	"strings"
	"testing"

	"lammastide/api"
	"lammastide/refs"
)

// wrongNames: none of them may be set, dropped or read.
var wrongNames = []string{"", " ", "A", "Main", "maiN", "a b", " a", "a ", "a\n", "a:1", "a-b", "-", "a_b", "a.b", "é", "１", "\x00", "\xff", "abcdefghijklm", strings.Repeat("x", 100000)}

// noTimes: neither a time nor a commit.
var noTimes = []int{-1, -2, math.MinInt, api.MaxTime + 1, math.MaxInt}

// read refs of a text that is well.
func read(t *testing.T, s string) *refs.Refs {
	t.Helper()
	r, err := refs.Read(s)
	if err != nil {
		t.Fatalf("%q: %v", s, err)
	}
	return r
}

func set(t *testing.T, r *refs.Refs, name string, old, to, at int) {
	t.Helper()
	if err := r.Set(name, old, to, at); err != nil {
		t.Fatalf("Set(%q, %d, %d, %d): %v", name, old, to, at, err)
	}
}

func drop(t *testing.T, r *refs.Refs, name string, old, at int) {
	t.Helper()
	if err := r.Drop(name, old, at); err != nil {
		t.Fatalf("Drop(%q, %d, %d): %v", name, old, at, err)
	}
}

// refusesSet with just this error, bare; and nothing changes.
func refusesSet(t *testing.T, r *refs.Refs, name string, old, to, at int, want error) {
	t.Helper()
	ahead := r.Text()
	if err := r.Set(name, old, to, at); err != want || r.Text() != ahead {
		t.Errorf("Set(%.40q, %d, %d, %d): %v; want %v", name, old, to, at, err, want)
	}
}

// refusesDrop with just this error, bare; and nothing changes.
func refusesDrop(t *testing.T, r *refs.Refs, name string, old, at int, want error) {
	t.Helper()
	ahead := r.Text()
	if err := r.Drop(name, old, at); err != want || r.Text() != ahead {
		t.Errorf("Drop(%.40q, %d, %d): %v; want %v", name, old, at, err, want)
	}
}

// is: the name is there, at this commit.
func is(t *testing.T, r *refs.Refs, name string, want int) {
	t.Helper()
	if n, is := r.Get(name); n != want || !is {
		t.Errorf("%q: %d, %v; want %d", name, n, is, want)
	}
}

func isNot(t *testing.T, r *refs.Refs, names ...string) {
	t.Helper()
	for _, name := range names {
		if n, is := r.Get(name); n != 0 || is {
			t.Errorf("%.40q: %d, %v", name, n, is)
		}
	}
}

func hasNames(t *testing.T, r *refs.Refs, want ...string) {
	t.Helper()
	for range 2 {
		l := r.Names()
		if !slices.Equal(l, want) {
			t.Fatalf("%q; want %q", l, want)
		}
		// It shows in no later answer.
		clear(l)
		_ = append(l, "x")
	}
}

func hasLog(t *testing.T, r *refs.Refs, name string, want ...refs.Entry) {
	t.Helper()
	for range 2 {
		l := r.Log(name)
		if !slices.Equal(l, want) {
			t.Fatalf("%.40q: %v; want %v", name, l, want)
		}
		clear(l)
		_ = append(l, refs.Entry{At: 9, To: 9})
	}
}

// was: at these times just this; -1: it was not there.
func was(t *testing.T, r *refs.Refs, name string, want int, times ...int) {
	t.Helper()
	for _, at := range times {
		if n, is := r.As(name, at); is != (want >= 0) || n != max(want, 0) {
			t.Errorf("%q at %d: %d, %v; want %d", name, at, n, is, want)
		}
	}
}

// many names: as many as are asked for, each at commit 1 from time 1 on.
func many(t *testing.T, r *refs.Refs, first, end int) {
	t.Helper()
	for i := first; i < end; i++ {
		set(t, r, numbered(i), -1, 1, 1)
	}
}

func numbered(i int) string { return "n" + strconv.Itoa(100+i) }

func TestNew(t *testing.T) {
	a, b := refs.New(), refs.New()
	set(t, a, "main", -1, 1, 1)
	hasNames(t, b)
	hasLog(t, b, "main")
	isNot(t, b, append([]string{"main", "a", "0"}, wrongNames...)...)
	was(t, b, "main", -1, 0, 1, math.MinInt, math.MaxInt)
	if b.Text() != "" {
		t.Errorf("%q", b.Text())
	}
	set(t, b, "main", -1, 2, 0)
	is(t, a, "main", 1)
	is(t, b, "main", 2)
}

func TestSet(t *testing.T) {
	r := refs.New()
	set(t, r, "main", -1, 7, 3)
	is(t, r, "main", 7)
	set(t, r, "main", 7, 5, 4)
	is(t, r, "main", 5)
	// To what it is, and at one time with the last one.
	set(t, r, "main", 5, 5, 4)
	set(t, r, "main", 5, 0, 4)
	is(t, r, "main", 0)
	set(t, r, "main", 0, 6, 9)
	hasLog(t, r, "main", refs.Entry{At: 3, To: 7}, refs.Entry{At: 4, To: 5}, refs.Entry{At: 4, To: 5}, refs.Entry{At: 4, To: 0}, refs.Entry{At: 9, To: 6})
	// Another name has times of its own.
	set(t, r, "a", -1, 6, 0)
	is(t, r, "a", 6)
	is(t, r, "main", 6)
	isNot(t, r, "b", "mai", "main0", "MAIN", "")
	hasNames(t, r, "a", "main")
}

func TestSetAtTheEdges(t *testing.T) {
	r := refs.New()
	set(t, r, "abcdefghijkl", -1, 0, 0)
	set(t, r, "abcdefghijkl", 0, api.MaxTime, 0)
	set(t, r, "abcdefghijkl", api.MaxTime, api.MaxTime-1, api.MaxTime)
	set(t, r, "abcdefghijkl", api.MaxTime-1, 0, api.MaxTime)
	drop(t, r, "abcdefghijkl", 0, api.MaxTime)
	set(t, r, "abcdefghijkl", -1, api.MaxTime, api.MaxTime)
	is(t, r, "abcdefghijkl", api.MaxTime)
	set(t, r, "0", -1, 1, api.MaxTime)
	set(t, r, "z", -1, 1, 0)
	set(t, r, "9a", -1, 0, 1)
	hasNames(t, r, "0", "9a", "abcdefghijkl", "z")
}

func TestSetRefuses(t *testing.T) {
	r := read(t, "gone 2:1 5:-\nmain 5:3 6:4\n")
	for _, name := range wrongNames {
		refusesSet(t, r, name, -1, 1, 9, api.ErrName)
	}
	for _, n := range noTimes {
		for _, name := range []string{"main", "gone", "new"} {
			old, is := r.Get(name)
			if !is {
				old = -1
			}
			refusesSet(t, r, name, old, n, 9, api.ErrBound)
			refusesSet(t, r, name, old, 1, n, api.ErrBound)
		}
	}
	for _, old := range []int{-1, -9, 0, 3, 5, math.MinInt, math.MaxInt} {
		refusesSet(t, r, "main", old, 1, 9, api.ErrStale)
	}
	for _, old := range []int{0, 1, 4, api.MaxTime, api.MaxTime + 1, math.MaxInt} {
		refusesSet(t, r, "gone", old, 1, 9, api.ErrStale)
		refusesSet(t, r, "new", old, 1, 9, api.ErrStale)
	}
	for _, at := range []int{0, 4, 5} {
		refusesSet(t, r, "main", 4, 1, at, api.ErrOrder)
	}
	// That it was dropped is the last one, too.
	for _, at := range []int{0, 2, 4} {
		refusesSet(t, r, "gone", -1, 1, at, api.ErrOrder)
	}
	set(t, r, "main", 4, 1, 6)
	set(t, r, "gone", -1, 1, 5)
	set(t, r, "new", -1, 1, 0)
}

// TestSetTellsTheFirst: each error with all that are named behind it.
func TestSetTellsTheFirst(t *testing.T) {
	r := refs.New()
	many(t, r, 0, api.MaxRefs)
	drop(t, r, numbered(0), 1, 5)
	many(t, r, api.MaxRefs, api.MaxRefs+1)
	for _, n := range noTimes {
		refusesSet(t, r, "", 7, n, n, api.ErrName)
		refusesSet(t, r, "A", 7, n, 0, api.ErrName)
		refusesSet(t, r, numbered(0), 7, n, 0, api.ErrBound)
		refusesSet(t, r, numbered(0), 7, 1, n, api.ErrBound)
		refusesSet(t, r, numbered(1), 7, n, 0, api.ErrBound)
	}
	refusesSet(t, r, numbered(0), 7, 1, 0, api.ErrStale)
	refusesSet(t, r, numbered(1), 7, 1, 0, api.ErrStale)
	refusesSet(t, r, "new", 7, 1, 0, api.ErrStale)
	refusesSet(t, r, numbered(0), -1, 1, 4, api.ErrOrder)
	refusesSet(t, r, numbered(0), -1, 1, 5, api.ErrFull)
	refusesSet(t, r, "new", -1, 1, 0, api.ErrFull)
}

// TestBelowZero: whatever is below 0 says that there is no such name now.
func TestBelowZero(t *testing.T) {
	for _, old := range []int{-1, -2, -9, math.MinInt} {
		r := refs.New()
		refusesDrop(t, r, "b", old, 1, api.ErrNone)
		set(t, r, "b", old, 1, 1)
		refusesSet(t, r, "b", old, 1, 1, api.ErrStale)
		refusesDrop(t, r, "b", old, 1, api.ErrStale)
		drop(t, r, "b", 1, 1)
		refusesDrop(t, r, "b", old, 1, api.ErrNone)
		set(t, r, "b", old, 2, 1)
		is(t, r, "b", 2)
	}
}

func TestDrop(t *testing.T) {
	r := read(t, "a 1:0\nb 1:2 3:4\nc 7:8\n")
	drop(t, r, "b", 4, 3)
	isNot(t, r, "b")
	hasNames(t, r, "a", "c")
	hasLog(t, r, "b", refs.Entry{At: 1, To: 2}, refs.Entry{At: 3, To: 4}, refs.Entry{At: 3, To: -1})
	// Commit 0 is one as well.
	drop(t, r, "a", 0, api.MaxTime)
	isNot(t, r, "a")
	set(t, r, "b", -1, 5, 6)
	is(t, r, "b", 5)
	drop(t, r, "b", 5, 6)
	drop(t, r, "c", 8, 9)
	hasNames(t, r)
	if s := r.Text(); s != "a 1:0 1099511627776:-\nb 1:2 3:4 3:- 6:5 6:-\nc 7:8 9:-\n" {
		t.Errorf("%q", s)
	}
}

func TestDropRefuses(t *testing.T) {
	r := read(t, "gone 2:1 5:-\nmain 5:3 6:4\n")
	for _, name := range wrongNames {
		refusesDrop(t, r, name, -1, 9, api.ErrName)
	}
	for _, at := range noTimes {
		refusesDrop(t, r, "main", 4, at, api.ErrBound)
	}
	for _, old := range []int{-1, -9, 0, 3, 5, math.MinInt, math.MaxInt} {
		refusesDrop(t, r, "main", old, 9, api.ErrStale)
	}
	for _, at := range []int{0, 4, 5} {
		refusesDrop(t, r, "main", 4, at, api.ErrOrder)
	}
	refusesDrop(t, r, "new", -1, 9, api.ErrNone)
	refusesDrop(t, r, "gone", -1, 5, api.ErrNone)
	refusesDrop(t, r, "gone", -1, 9, api.ErrNone)
	drop(t, r, "main", 4, 6)
	refusesDrop(t, r, "main", -1, 6, api.ErrNone)
}

// TestDropTellsTheFirst: as Set does, and that there is no such name behind these.
func TestDropTellsTheFirst(t *testing.T) {
	r := read(t, "gone 2:1 5:-\nmain 5:3 6:4\n")
	for _, at := range noTimes {
		refusesDrop(t, r, "", 7, at, api.ErrName)
		refusesDrop(t, r, "main", 7, at, api.ErrBound)
		refusesDrop(t, r, "gone", 7, at, api.ErrBound)
		refusesDrop(t, r, "new", 7, at, api.ErrBound)
		refusesDrop(t, r, "new", -1, at, api.ErrBound)
	}
	refusesDrop(t, r, "", -1, 9, api.ErrName)
	refusesDrop(t, r, "main", 7, 0, api.ErrStale)
	refusesDrop(t, r, "gone", 7, 0, api.ErrStale)
	refusesDrop(t, r, "new", 7, 0, api.ErrStale)
	refusesDrop(t, r, "gone", -1, 4, api.ErrOrder)
}

func TestFull(t *testing.T) {
	r := refs.New()
	many(t, r, 0, api.MaxRefs)
	refusesSet(t, r, "x", -1, 1, 1, api.ErrFull)
	// Those that are there go on.
	for i := range api.MaxRefs {
		set(t, r, numbered(i), 1, 2, 2)
	}
	drop(t, r, numbered(7), 2, 3)
	set(t, r, "x", -1, 1, 1)
	refusesSet(t, r, numbered(7), -1, 1, 3, api.ErrFull)
	refusesSet(t, r, "y", -1, 1, 3, api.ErrFull)
	drop(t, r, "x", 1, 4)
	set(t, r, numbered(7), -1, 1, 3)
	refusesSet(t, r, "x", -1, 1, 4, api.ErrFull)
	if len(r.Names()) != api.MaxRefs {
		t.Error(r.Names())
	}
}

// TestMoreThanAreThere: of names that were dropped there may be any number.
func TestMoreThanAreThere(t *testing.T) {
	r := refs.New()
	for i := range 5 * api.MaxRefs {
		set(t, r, numbered(i), -1, i, i)
		drop(t, r, numbered(i), i, i+1)
	}
	hasNames(t, r)
	many(t, r, 500, 500+api.MaxRefs)
	refusesSet(t, r, numbered(3), -1, 1, 9, api.ErrFull)
	was(t, r, numbered(3), 3, 3)
	if again := read(t, r.Text()); again.Text() != r.Text() || len(again.Names()) != api.MaxRefs {
		t.Error(again.Names())
	}
}

// TestNamesRise, by their bytes, in whatever order they came.
func TestNamesRise(t *testing.T) {
	r := refs.New()
	for _, name := range []string{"b", "a10", "z", "a", "ab", "10", "a2", "9", "aa", "0"} {
		set(t, r, name, -1, 1, 1)
	}
	hasNames(t, r, "0", "10", "9", "a", "a10", "a2", "aa", "ab", "b", "z")
	drop(t, r, "a", 1, 1)
	drop(t, r, "z", 1, 1)
	hasNames(t, r, "0", "10", "9", "a10", "a2", "aa", "ab", "b")
	set(t, r, "a", -1, 1, 1)
	hasNames(t, r, "0", "10", "9", "a", "a10", "a2", "aa", "ab", "b")
}

func TestLogOfNone(t *testing.T) {
	r := read(t, "main 5:3\n")
	for _, name := range append([]string{"a", "mai", "main0"}, wrongNames...) {
		hasLog(t, r, name)
	}
	hasLog(t, r, "main", refs.Entry{At: 5, To: 3})
}

func TestAs(t *testing.T) {
	r := read(t, "a 0:7\nmain 5:3 5:4 9:- 9:2 9:- 12:0 20:8 1099511627776:1\n")
	was(t, r, "main", -1, math.MinInt, -5, -1, 0, 4)
	was(t, r, "main", 4, 5, 6, 8)
	was(t, r, "main", -1, 9, 10, 11)
	was(t, r, "main", 0, 12, 13, 19)
	was(t, r, "main", 8, 20, 21, api.MaxTime-1)
	was(t, r, "main", 1, api.MaxTime, api.MaxTime+1, math.MaxInt)
	was(t, r, "a", -1, -1, math.MinInt)
	was(t, r, "a", 7, 0, 1, api.MaxTime, math.MaxInt)
	for _, name := range append([]string{"b", "mai"}, wrongNames...) {
		was(t, r, name, -1, math.MinInt, 0, 5, math.MaxInt)
	}
	// Also when it is dropped now.
	drop(t, r, "main", 1, api.MaxTime)
	was(t, r, "main", 8, 20, api.MaxTime-1)
	was(t, r, "main", -1, api.MaxTime, math.MaxInt)
}

func TestCopyIsAnother(t *testing.T) {
	for size := range 9 {
		r := refs.New()
		set(t, r, "b", -1, 0, 0)
		for i := range size {
			set(t, r, "b", i, i+1, i)
		}
		ahead := r.Text()
		c := r.Copy()
		// Each writes another entry into the same place, and another name.
		set(t, r, "b", size, 100, 100)
		set(t, r, "first", -1, 1, 1)
		if c.Text() != ahead {
			t.Fatalf("%q; want %q", c.Text(), ahead)
		}
		set(t, c, "b", size, 200, 200)
		set(t, c, "copy", -1, 2, 2)
		if want := strings.TrimSuffix(ahead, "\n") + " 100:100\nfirst 1:1\n"; r.Text() != want {
			t.Errorf("%q; want %q", r.Text(), want)
		}
		if want := strings.TrimSuffix(ahead, "\n") + " 200:200\ncopy 2:2\n"; c.Text() != want {
			t.Errorf("%q; want %q", c.Text(), want)
		}
	}
	empty := refs.New().Copy()
	set(t, empty, "a", -1, 1, 1)
	is(t, empty, "a", 1)
}

func TestCopyIsFullAsWell(t *testing.T) {
	r := refs.New()
	many(t, r, 0, api.MaxRefs)
	refusesSet(t, r.Copy(), "x", -1, 1, 1, api.ErrFull)
	set(t, r.Copy(), numbered(0), 1, 1, 1)
}

func TestAllNames(t *testing.T) {
	r := refs.New()
	if l := r.AllNames(); len(l) != 0 {
		t.Error(l)
	}
	set(t, r, "b", -1, 1, 1)
	set(t, r, "c", -1, 1, 1)
	set(t, r, "a", -1, 1, 1)
	drop(t, r, "b", 1, 2)
	drop(t, r, "a", 1, 2)
	set(t, r, "a", -1, 2, 2)
	for range 2 {
		l := r.AllNames()
		if !slices.Equal(l, []string{"a", "b", "c"}) {
			t.Error(l)
		}
		// It shows in no later answer.
		clear(l)
	}
	hasNames(t, r, "a", "c")
}

// TestRenumbered: what is dropped stays so, and the first one stays as it was.
func TestRenumbered(t *testing.T) {
	const text = "a 1:3 1:- 2:0\nb 7:5\n"
	r := read(t, text)
	c := r.Renumbered(func(n int) int { return 10 - n })
	if c.Text() != "a 1:7 1:- 2:10\nb 7:5\n" {
		t.Error(c.Text())
	}
	set(t, c, "a", 10, 6, 3)
	drop(t, c, "b", 5, 7)
	if r.Text() != text {
		t.Error(r.Text())
	}
}
