package diff_test

import (
	"fmt"
	"slices"
	"strings"
	"testing"

	"lammastide/api"
	"lammastide/book"
	"lammastide/diff"
	"lammastide/event"
)

// Three events, with something in every field of one of them; in the order of their IDs.
const (
	coldText = "c0||2000-01-13|1|daily 2|2000-01-15|"
	fairText = "fair|The Fair|2000-01-05|3|weekly 2 mo,we count 9|2000-01-17|2000-01-19>2000-01-20"
	onceText = "once|Fair|2000-01-08|1|once||"
)

func read(t *testing.T, s string) api.Event {
	t.Helper()
	e, err := event.Read(s)
	if err != nil {
		t.Fatal(s, err)
	}
	return e
}

// bookOf events, put in the order in which they stand.
func bookOf(t *testing.T, texts ...string) *book.Book {
	t.Helper()
	b := book.New()
	for _, s := range texts {
		if err := b.Put(read(t, s)); err != nil {
			t.Fatal(s, err)
		}
	}
	return b
}

func three(t *testing.T) *book.Book {
	t.Helper()
	return bookOf(t, fairText, onceText, coldText)
}

func line(id string) string { return id + "||2000-01-06|1|once||" }

// many events: so many, whose IDs begin with this.
func many(t *testing.T, head string, n int) *book.Book {
	t.Helper()
	b := book.New()
	for i := range n {
		if err := b.Put(read(t, line(fmt.Sprintf("%s%02d", head, i)))); err != nil {
			t.Fatal(i, err)
		}
	}
	return b
}

// tells: Diff tells just these changes.
func tells(t *testing.T, a, b *book.Book, want ...api.Change) {
	t.Helper()
	before, after := a.Text(), b.Text()
	if got := diff.Diff(a, b); !slices.Equal(got, want) {
		t.Errorf("%q; want %q", got, want)
	}
	if a.Text() != before || b.Text() != after {
		t.Error("Diff changes what it is given")
	}
}

func TestDiffOfOneAlone(t *testing.T) {
	a, b := bookOf(t, fairText), bookOf(t, fairText, onceText)
	tells(t, a, b, api.Change{ID: "once", Field: "all", New: onceText})
	tells(t, b, a, api.Change{ID: "once", Field: "all", Old: onceText})
	tells(t, bookOf(t, coldText), bookOf(t, fairText), api.Change{ID: "c0", Field: "all", Old: coldText}, api.Change{ID: "fair", Field: "all", New: fairText})
	tells(t, bookOf(t, fairText), bookOf(t, coldText), api.Change{ID: "c0", Field: "all", New: coldText}, api.Change{ID: "fair", Field: "all", Old: fairText})
}

func TestDiffOfEachField(t *testing.T) {
	for _, c := range []struct{ text, field, old, new string }{
		{"fair||2000-01-05|3|weekly 2 mo,we count 9|2000-01-17|2000-01-19>2000-01-20", "title", "The Fair", ""},
		{"fair|the Fair|2000-01-05|3|weekly 2 mo,we count 9|2000-01-17|2000-01-19>2000-01-20", "title", "The Fair", "the Fair"},
		{"fair|The Fair|2199-12-31|3|weekly 2 mo,we count 9|2000-01-17|2000-01-19>2000-01-20", "start", "2000-01-05", "2199-12-31"},
		{"fair|The Fair|2000-01-05|60|weekly 2 mo,we count 9|2000-01-17|2000-01-19>2000-01-20", "long", "3", "60"},
		{"fair|The Fair|2000-01-05|3|once|2000-01-17|2000-01-19>2000-01-20", "rule", "weekly 2 mo,we count 9", "once"},
		{"fair|The Fair|2000-01-05|3|weekly 2 mo,we count 8|2000-01-17|2000-01-19>2000-01-20", "rule", "weekly 2 mo,we count 9", "weekly 2 mo,we count 8"},
		{"fair|The Fair|2000-01-05|3|weekly 2 mo,we count 9|2000-01-16,2000-01-17|2000-01-19>2000-01-20", "skips", "2000-01-17", "2000-01-16,2000-01-17"},
		{"fair|The Fair|2000-01-05|3|weekly 2 mo,we count 9||2000-01-19>2000-01-20", "skips", "2000-01-17", ""},
		{"fair|The Fair|2000-01-05|3|weekly 2 mo,we count 9|2000-01-17|2000-01-19>2000-01-21", "moves", "2000-01-19>2000-01-20", "2000-01-19>2000-01-21"},
		{"fair|The Fair|2000-01-05|3|weekly 2 mo,we count 9|2000-01-17|", "moves", "2000-01-19>2000-01-20", ""},
	} {
		a, b := three(t), bookOf(t, coldText, c.text, onceText)
		tells(t, a, b, api.Change{ID: "fair", Field: c.field, Old: c.old, New: c.new})
		tells(t, b, a, api.Change{ID: "fair", Field: c.field, Old: c.new, New: c.old})
	}
}

func TestDiffOfAllFields(t *testing.T) {
	tells(t, three(t), bookOf(t, onceText, "fair|x|2000-01-01|1|once||", coldText),
		api.Change{ID: "fair", Field: "title", Old: "The Fair", New: "x"},
		api.Change{ID: "fair", Field: "start", Old: "2000-01-05", New: "2000-01-01"},
		api.Change{ID: "fair", Field: "long", Old: "3", New: "1"},
		api.Change{ID: "fair", Field: "rule", Old: "weekly 2 mo,we count 9", New: "once"},
		api.Change{ID: "fair", Field: "skips", Old: "2000-01-17", New: ""},
		api.Change{ID: "fair", Field: "moves", Old: "2000-01-19>2000-01-20", New: ""})
}

// TestDiffRises by the bytes of the IDs, whichever of the two has the event, and however they were put.
func TestDiffRises(t *testing.T) {
	ids := []string{"0", "00", "1", "10", "2", "9", "a", "a0", "aa", "b", "z", "zz"}
	for turn := range ids {
		a, b := book.New(), book.New()
		var want []api.Change
		for i, id := range ids {
			c := api.Change{ID: id, Field: "all", New: line(id)}
			switch (turn + i) % 3 {
			case 0:
				c = api.Change{ID: id, Field: "all", Old: line(id)}
			case 1:
				c = api.Change{ID: id, Field: "title", Old: "", New: "x"}
			}
			want = append(want, c)
		}
		for i := range ids {
			at := (turn + i*5) % len(ids)
			e := read(t, line(ids[at]))
			if (turn+at)%3 < 2 && a.Put(e) != nil {
				t.Fatal(e)
			}
			if (turn+at)%3 == 1 {
				e.Title = "x"
			}
			if (turn+at)%3 > 0 && b.Put(e) != nil {
				t.Fatal(e)
			}
		}
		tells(t, a, b, want...)
	}
}

func TestDiffOfTheSame(t *testing.T) {
	a := three(t)
	tells(t, a, a)
	tells(t, a, a.Copy())
	tells(t, a, bookOf(t, onceText, coldText, fairText))
	tells(t, book.New(), book.New())
	// A nil list and an empty one are one thing.
	e := read(t, onceText)
	e.Rule.Days, e.Skips, e.Moves = []int{}, []int{}, []api.Move{}
	b := book.New()
	if err := b.Put(e); err != nil {
		t.Fatal(err)
	}
	tells(t, b, bookOf(t, onceText))
}

func TestDiffOfNone(t *testing.T) {
	b := bookOf(t, onceText, coldText)
	for _, none := range []*book.Book{nil, book.New()} {
		tells(t, none, nil)
		tells(t, nil, none)
		tells(t, none, b, api.Change{ID: "c0", Field: "all", New: coldText}, api.Change{ID: "once", Field: "all", New: onceText})
		tells(t, b, none, api.Change{ID: "c0", Field: "all", Old: coldText}, api.Change{ID: "once", Field: "all", Old: onceText})
	}
}

// TestDiffOfFullBooks: an answer may have more changes than a book has events.
func TestDiffOfFullBooks(t *testing.T) {
	a, b := many(t, "x", api.MaxEvents), many(t, "a", api.MaxEvents)
	l := diff.Diff(a, b)
	if len(l) != 2*api.MaxEvents || l[0] != (api.Change{ID: "a00", Field: "all", New: line("a00")}) || l[119] != (api.Change{ID: "x59", Field: "all", Old: line("x59")}) {
		t.Error(l)
	}
}

// TestDiffIsNew: what is written into an answer shows nowhere.
func TestDiffIsNew(t *testing.T) {
	a, b := three(t), bookOf(t, "fair|x|2000-01-01|1|once||", line("new"))
	want := diff.Diff(a, b)
	l := diff.Diff(a, b)
	for i := range l {
		l[i] = api.Change{ID: "scribbled"}
	}
	tells(t, a, b, want...)
}

func TestBack(t *testing.T) {
	l := []api.Change{{ID: "a", Field: "title", Old: "x", New: "y"}, {ID: "b", Field: "all", New: line("b")}, {ID: "a", Field: "skips", Old: "2000-01-01"}}
	given := slices.Clone(l)
	want := []api.Change{{ID: "a", Field: "skips", New: "2000-01-01"}, {ID: "b", Field: "all", Old: line("b")}, {ID: "a", Field: "title", Old: "y", New: "x"}}
	got := diff.Back(l)
	if !slices.Equal(got, want) || !slices.Equal(diff.Back(got), l) {
		t.Error(got)
	}
	for i := range got {
		got[i] = api.Change{}
	}
	if !slices.Equal(l, given) || !slices.Equal(diff.Back(l), want) {
		t.Error("an answer shares memory with what is given, or with another one", l)
	}
	if got := diff.Back(l[:1]); len(got) != 1 || got[0] != want[2] || !slices.Equal(l, given) {
		t.Error(got)
	}
	if len(diff.Back(nil)) > 0 || len(diff.Back([]api.Change{})) > 0 {
		t.Error("something comes of nothing")
	}
}

// TestBackOfAnything: also changes that no Diff tells are only turned round.
func TestBackOfAnything(t *testing.T) {
	l := []api.Change{{}, {ID: "\xff|\n", Field: "no field", Old: "x", New: strings.Repeat("y", 20000)}, {Field: "all", Old: "p", New: "p"}}
	want := []api.Change{l[2], {ID: "\xff|\n", Field: "no field", Old: l[1].New, New: "x"}, {}}
	if got := diff.Back(l); !slices.Equal(got, want) {
		t.Errorf("%.80q", got)
	}
}

// thereAndBack: P62 of two books.
func thereAndBack(t *testing.T, a, b *book.Book) {
	t.Helper()
	l := diff.Diff(a, b)
	if there, err := diff.Apply(a, l); err != nil || !book.Same(there, b) {
		t.Errorf("from %.200q to %.200q: %v", a.Text(), b.Text(), err)
	}
	if again, err := diff.Apply(b, diff.Back(l)); err != nil || !book.Same(again, a) {
		t.Errorf("from %.200q back to %.200q: %v", b.Text(), a.Text(), err)
	}
}

func TestThereAndBack(t *testing.T) {
	// Of any two of them the IDs are no more than a book may have.
	all := []*book.Book{nil, book.New(), three(t), many(t, "x", 20), many(t, "fair", 9), many(t, "a", 30)}
	for i := range 64 {
		// Of each field one of two texts, so that every set of unlike fields comes.
		pick := func(bit int, a, b string) string { return []string{a, b}[i>>bit&1] }
		fields := []string{"fair", pick(0, "The Fair", ""), pick(1, "2000-01-05", "2199-12-31"), pick(2, "3", "60"), pick(3, "weekly 2 mo,we count 9", "once"), pick(4, "2000-01-17", "2000-01-16,2000-01-18"), pick(5, "2000-01-19>2000-01-20", "")}
		texts := []string{strings.Join(fields, "|"), pick(0, coldText, line("c0")), pick(1, onceText, line("z"))}
		all = append(all, bookOf(t, texts...))
	}
	for _, a := range all {
		for _, b := range all {
			thereAndBack(t, a, b)
		}
	}
}

func TestThereAndBackOfFullBooks(t *testing.T) {
	full := many(t, "x", api.MaxEvents)
	other := full.Copy()
	if other.Put(read(t, "x07|seven|2000-01-07|7|daily 7|2000-01-14|")) != nil || other.Drop("x30") != nil || other.Put(read(t, line("z"))) != nil {
		t.Fatal(other.IDs())
	}
	for _, b := range []*book.Book{nil, book.New(), full, other, many(t, "x", 1), many(t, "y", api.MaxEvents)} {
		thereAndBack(t, full, b)
	}
	thereAndBack(t, nil, full)
	thereAndBack(t, many(t, "x", 59), full)
}

// TestBetweenTwoBooks: Apply goes change by change, so each book between the two must be one too; where one is not, it tells so, though the last one would be well.
func TestBetweenTwoBooks(t *testing.T) {
	skipped, moved := bookOf(t, "p||2000-01-01|1|daily 1|2000-01-05|"), bookOf(t, "p||2000-01-01|1|daily 1||2000-01-05>2000-01-06")
	thereAndBack(t, skipped, moved)
	refuses(t, moved, diff.Diff(moved, skipped), 0, api.ErrExist)
	refuses(t, skipped, diff.Back(diff.Diff(moved, skipped)), 0, api.ErrExist)
	low, high := many(t, "a", api.MaxEvents), many(t, "x", api.MaxEvents)
	thereAndBack(t, low, high)
	refuses(t, high, diff.Diff(high, low), 0, api.ErrFull)
	refuses(t, low, diff.Back(diff.Diff(high, low)), 0, api.ErrFull)
	refuses(t, many(t, "x", 58), diff.Diff(many(t, "x", 58), low), 2, api.ErrFull)
}
