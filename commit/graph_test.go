package commit_test

import (
	"fmt"
	"math"
	"reflect"
	"slices"
	"strconv"
	"strings"
	"testing"

	"lammastide/api"
	"lammastide/book"
	"lammastide/commit"
	"lammastide/event"
	"lammastide/pool"
)

// wrongNumbersOf a pool: there is no such text.
func wrongNumbersOf(p *pool.Pool) []int {
	return []int{-1, p.Len(), p.Len() + 1, api.MaxTexts, api.MaxTime, math.MinInt, math.MaxInt}
}

// bookOf events.
func bookOf(t *testing.T, texts ...string) *book.Book {
	t.Helper()
	b := book.New()
	for _, s := range texts {
		e, err := event.Read(s)
		if err != nil {
			t.Fatal(s, err)
		}
		if err := b.Put(e); err != nil {
			t.Fatal(s, err)
		}
	}
	return b
}

// titled: a calendar of one event, such that two titles clash.
func titled(t *testing.T, title string) *book.Book {
	t.Helper()
	return bookOf(t, "fair|"+title+"|2000-01-05|1|once||")
}

// sized: a calendar whose text has so many bytes.
func sized(t *testing.T, size int) *book.Book {
	t.Helper()
	b := book.New()
	for i := 0; len(b.Text()) < size; i++ {
		e, err := event.Read(fmt.Sprintf("x%02d||2000-01-05|1|once||", i))
		if err != nil {
			t.Fatal(err)
		}
		// A title only where it makes the last event fit: what is left must never be too little for one.
		switch left := size - len(b.Text()) - len(event.Text(e)) - len("\n"); {
		case left > 300:
			for d := range api.MaxSkips {
				e.Skips = append(e.Skips, d)
			}
		case left <= api.MaxTitle:
			e.Title = strings.Repeat("t", left)
		}
		if err := b.Put(e); err != nil {
			t.Fatal(err)
		}
	}
	if len(b.Text()) != size {
		t.Fatal(len(b.Text()), size)
	}
	return b
}

// poolOf texts, none of them twice.
func poolOf(t *testing.T, texts ...string) *pool.Pool {
	t.Helper()
	p := pool.New()
	for i, s := range texts {
		if n, err := p.Put(s); n != i || err != nil {
			t.Fatalf("%.40q: %d, %v; want %d", s, n, err, i)
		}
	}
	return p
}

// graphOf texts, which may be any.
func graphOf(t *testing.T, texts ...string) *commit.Graph {
	t.Helper()
	return commit.Of(poolOf(t, texts...))
}

// fill a pool up to so many texts.
func fill(t *testing.T, p *pool.Pool, many int) {
	t.Helper()
	for i := 0; p.Len() < many; i++ {
		if _, err := p.Put("text " + strconv.Itoa(i)); err != nil {
			t.Fatal(err)
		}
	}
}

// adds: Add answers this number.
func adds(t *testing.T, g *commit.Graph, b *book.Book, parents []int, at int, note string, want int) {
	t.Helper()
	if n, err := g.Add(b, parents, at, note); n != want || err != nil {
		t.Fatalf("%v at %d: %d, %v; want %d", parents, at, n, err, want)
	}
}

// add a commit that is to be right.
func add(t *testing.T, g *commit.Graph, b *book.Book, at int, parents ...int) int {
	t.Helper()
	n, err := g.Add(b, parents, at, "at "+strconv.Itoa(at))
	if err != nil {
		t.Fatal(at, parents, err)
	}
	return n
}

// refusesToAdd: Add tells just this error, and changes nothing.
func refusesToAdd(t *testing.T, g *commit.Graph, b *book.Book, parents []int, at int, note string, want error) {
	t.Helper()
	before := g.Pool().Text()
	if n, err := g.Add(b, parents, at, note); n != 0 || err != want {
		t.Errorf("%v at %d, %.60q: %d, %v; want %v", parents, at, note, n, err, want)
	}
	if g.Pool().Text() != before {
		t.Errorf("%v at %d, %.60q: something is put beside %v", parents, at, note, want)
	}
}

func TestNew(t *testing.T) {
	g, h := commit.New(), commit.New()
	if g.Pool().Len() != 0 {
		t.Error(g.Pool().Len())
	}
	adds(t, g, nil, nil, 0, "", 1)
	if h.Pool().Len() != 0 {
		t.Error("two new ones have one pool")
	}
}

func TestOfIsACopy(t *testing.T) {
	p := poolOf(t, "", "commit 0\n1 x")
	g := commit.Of(p)
	adds(t, g, titled(t, "a"), []int{1}, 2, "y", 3)
	if p.Len() != 2 || g.Pool().Len() != 4 {
		t.Error(p.Len(), g.Pool().Len())
	}
	if _, err := p.Put("of the first"); err != nil {
		t.Fatal(err)
	}
	if _, is := g.Pool().Find("of the first"); is {
		t.Error("what is put into a pool shows in a graph of it")
	}
	if c, err := g.Get(1); err != nil || commit.Text(c) != "commit 0\n1 x" {
		t.Error(c, err)
	}
}

// TestPoolIsItsOwn: one pool, whatever was done, and each sees what the other one put.
func TestPoolIsItsOwn(t *testing.T) {
	for _, g := range []*commit.Graph{commit.New(), commit.Of(pool.New())} {
		p := g.Pool()
		adds(t, g, nil, nil, 0, "", 1)
		if s, err := p.Get(1); s != "commit 0\n0 " || err != nil {
			t.Errorf("%q, %v", s, err)
		}
		if n, err := p.Put("commit 0 1\n5 by hand"); n != 2 || err != nil {
			t.Fatal(n, err)
		}
		if c, err := g.Get(2); err != nil || c.Note != "by hand" {
			t.Error(c, err)
		}
		adds(t, g, titled(t, "a"), []int{2}, 5, "", 4)
		if g.Pool() != p || p.Len() != 5 {
			t.Error("it is another one now", p.Len())
		}
	}
}

func TestGet(t *testing.T) {
	g := graphOf(t, "commit 5 0 1\n77 a b", "x", "", "commit 0 1 2 3\n0 ", "commit 1099511627777\n0 ", "commit 0\n0 \n", "commit 0\n0", "fair||2000-01-05|1|once||\n")
	want := commit.Commit{Tree: 5, Parents: []int{0, 1}, At: 77, Note: "a b"}
	for range 2 {
		c, err := g.Get(0)
		if err != nil || !reflect.DeepEqual(c, want) {
			t.Fatal(c, err)
		}
		// It shows in no later answer.
		c.Parents[0] = 9
	}
	// Also where Read tells ErrBound.
	for n := 1; n < g.Pool().Len(); n++ {
		if c, err := g.Get(n); err != api.ErrText || !reflect.DeepEqual(c, commit.Commit{}) {
			t.Error(n, c, err)
		}
	}
	for _, n := range wrongNumbersOf(g.Pool()) {
		if c, err := g.Get(n); err != api.ErrNone || !reflect.DeepEqual(c, commit.Commit{}) {
			t.Error(n, c, err)
		}
	}
}

func TestBook(t *testing.T) {
	const fair = "fair|The Fair|2000-01-05|3|weekly 2 mo,we count 9|2000-01-17|2000-01-19>2000-01-20\n"
	g := graphOf(t, fair, "commit 0\n1 ", "", "commit 2\n1 ", "commit 0 99\n0 ")
	for n, want := range map[int]string{1: fair, 3: "", 4: fair} {
		for range 2 {
			b, err := g.Book(n)
			if err != nil || b == nil || b.Text() != want {
				t.Fatalf("%d: %q, %v", n, b.Text(), err)
			}
			// It shows in no later answer.
			if err := b.Put(api.Event{ID: "new", Long: 1, Rule: api.Rule{Freq: "once", Every: 1, Until: -1}}); err != nil {
				t.Fatal(err)
			}
		}
	}
}

func TestBookRefuses(t *testing.T) {
	const line = "fair||2000-01-05|1|once||\n"
	none := []string{"x", line + line, strings.TrimSuffix(line, "\n"), strings.Repeat("x", api.MaxText), "fair||2000-01-05|99|once||\n", "commit 0\n0 "}
	for _, text := range none {
		g := graphOf(t, "", text, "commit 1\n0 ", "commit 3\n0 ")
		// The last one's Tree is itself.
		for _, n := range []int{2, 3} {
			if b, err := g.Book(n); b != nil || err != api.ErrText {
				t.Errorf("%.40q: %v, %v", text, b, err)
			}
		}
	}
	g := graphOf(t, "", "commit 5\n0 ", "commit 999\n0 ", "commit 1000\n0 ", "commit 1099511627776\n0 ")
	for n := 1; n < g.Pool().Len(); n++ {
		if b, err := g.Book(n); b != nil || err != api.ErrNone {
			t.Error(n, b, err)
		}
	}
	for _, n := range wrongNumbersOf(g.Pool()) {
		if b, err := g.Book(n); b != nil || err != api.ErrNone {
			t.Error(n, b, err)
		}
	}
	// A calendar's own number is no commit's.
	if b, err := g.Book(0); b != nil || err != api.ErrText {
		t.Error(b, err)
	}
}

func TestAdd(t *testing.T) {
	g := commit.New()
	a, b := titled(t, "a"), titled(t, "b")
	adds(t, g, a, nil, 1, "first", 1)
	adds(t, g, b, []int{1}, 1, "", 3)
	adds(t, g, a, []int{3}, 2, "back", 4)
	adds(t, g, a, []int{4, 1}, 2, longNote, 5)
	adds(t, g, nil, []int{1, 4}, api.MaxTime, "", 7)
	adds(t, g, book.New(), []int{}, 0, "", 8)
	want := []string{a.Text(), "commit 0\n1 first", b.Text(), "commit 2 1\n1 ", "commit 0 3\n2 back", "commit 0 4 1\n2 " + longNote, "", "commit 6 1 4\n1099511627776 ", "commit 6\n0 "}
	if g.Pool().Text() != poolOf(t, want...).Text() {
		t.Errorf("%q", g.Pool().Text())
	}
}

// TestAddWhatIsThere: texts are there once.
func TestAddWhatIsThere(t *testing.T) {
	g := commit.New()
	adds(t, g, titled(t, "a"), nil, 1, "x", 1)
	adds(t, g, titled(t, "a"), []int{1}, 1, "x", 2)
	before := g.Pool().Text()
	adds(t, g, titled(t, "a"), nil, 1, "x", 1)
	adds(t, g, titled(t, "a"), []int{1}, 1, "x", 2)
	if g.Pool().Text() != before {
		t.Errorf("%q", g.Pool().Text())
	}
	// A time, a note, a calendar or a parent that is another one makes another commit.
	adds(t, g, titled(t, "a"), nil, 2, "x", 3)
	adds(t, g, titled(t, "a"), nil, 1, "", 4)
	adds(t, g, titled(t, "b"), nil, 1, "x", 6)
	adds(t, g, titled(t, "a"), []int{2}, 1, "x", 7)
	adds(t, g, titled(t, "a"), []int{1, 2}, 1, "x", 8)
	adds(t, g, titled(t, "a"), []int{2, 1}, 1, "x", 9)
}

func TestAddOnlyReads(t *testing.T) {
	g := commit.New()
	one, two := add(t, g, nil, 1), add(t, g, nil, 2)
	b := titled(t, "a")
	parents := []int{one, two, 77, 78}
	n := add(t, g, b, 3, parents[:1]...)
	m, err := g.Add(b, parents[:2], 3, "")
	if err != nil || !slices.Equal(parents, []int{one, two, 77, 78}) || b.Text() != titled(t, "a").Text() {
		t.Error(err, parents)
	}
	parents[0], parents[1] = 99, 99
	if err := b.Drop("fair"); err != nil {
		t.Fatal(err)
	}
	for at, want := range map[int][]int{n: {one}, m: {one, two}} {
		c, err := g.Get(at)
		if err != nil || !slices.Equal(c.Parents, want) {
			t.Error(c, err)
		}
		if kept, err := g.Book(at); err != nil || !book.Same(kept, titled(t, "a")) {
			t.Error(err)
		}
	}
}

func TestAddRefusesBounds(t *testing.T) {
	g := commit.New()
	one, two, three := add(t, g, nil, 1), add(t, g, nil, 2), add(t, g, nil, 3)
	for _, at := range []int{-1, math.MinInt, api.MaxTime + 1, math.MaxInt} {
		refusesToAdd(t, g, nil, nil, at, "", api.ErrBound)
		refusesToAdd(t, g, titled(t, "a"), []int{one}, at, "", api.ErrBound)
		// Ahead of all else.
		refusesToAdd(t, g, sized(t, api.MaxText+1), []int{99, 99}, at, "\n", api.ErrBound)
	}
	refusesToAdd(t, g, nil, []int{one, two, three}, 9, "", api.ErrBound)
	refusesToAdd(t, g, nil, []int{one, one, one}, 0, "", api.ErrBound)
	refusesToAdd(t, g, nil, []int{99, -1, 0}, 9, "\n", api.ErrBound)
	refusesToAdd(t, g, nil, make([]int, 1000), 9, "", api.ErrBound)
}

func TestAddRefusesNotes(t *testing.T) {
	g := commit.New()
	one := add(t, g, nil, 5)
	for _, note := range []string{"\n", "a\nb", "\x1f", "\x7f", "\x80", "é", longNote + "x"} {
		refusesToAdd(t, g, nil, nil, 9, note, api.ErrText)
		refusesToAdd(t, g, nil, []int{one}, 1, note, api.ErrText)
		refusesToAdd(t, g, nil, []int{99, 99}, 9, note, api.ErrText)
		refusesToAdd(t, g, sized(t, api.MaxText+1), []int{one, one}, 9, note, api.ErrText)
	}
}

func TestAddRefusesParents(t *testing.T) {
	g := commit.New()
	one, two := add(t, g, nil, 5), add(t, g, titled(t, "a"), 5)
	for _, n := range wrongNumbersOf(g.Pool()) {
		refusesToAdd(t, g, nil, []int{n}, 9, "", api.ErrNone)
		refusesToAdd(t, g, nil, []int{one, n}, 9, "", api.ErrNone)
		// Ahead of times, also of a parent that stands ahead; and of two that are one.
		refusesToAdd(t, g, nil, []int{one, n}, 1, "", api.ErrNone)
		refusesToAdd(t, g, nil, []int{n, n}, 9, "", api.ErrNone)
		// The first of two.
		refusesToAdd(t, g, nil, []int{n, 0}, 9, "", api.ErrNone)
		refusesToAdd(t, g, nil, []int{0, n}, 9, "", api.ErrText)
	}
	refusesToAdd(t, g, nil, []int{0}, 9, "", api.ErrText)
	refusesToAdd(t, g, nil, []int{one, 0}, 1, "", api.ErrText)
	refusesToAdd(t, g, sized(t, api.MaxText+1), []int{0}, 9, "", api.ErrText)
	refusesToAdd(t, g, nil, []int{one}, 4, "", api.ErrOrder)
	refusesToAdd(t, g, nil, []int{one, two}, 0, "", api.ErrOrder)
	refusesToAdd(t, g, nil, []int{one, one}, 4, "", api.ErrOrder)
	refusesToAdd(t, g, nil, []int{one, one}, 5, "", api.ErrShape)
	refusesToAdd(t, g, sized(t, api.MaxText+1), []int{two, two}, 9, "", api.ErrShape)
	adds(t, g, nil, []int{one, two}, 5, "", 4)
}

// TestAddAsksForTheLaterParent: whichever of the two it is.
func TestAddAsksForTheLaterParent(t *testing.T) {
	g := commit.New()
	early, late := add(t, g, nil, 1), add(t, g, nil, 7)
	for _, parents := range [][]int{{early, late}, {late, early}} {
		refusesToAdd(t, g, nil, parents, 6, "", api.ErrOrder)
		add(t, g, nil, 7, parents...)
	}
}

// TestAddAsksParentsAlone: what theirs are is not looked at.
func TestAddAsksParentsAlone(t *testing.T) {
	g := graphOf(t, "", "commit 99 99\n1 ", "commit 0 2\n1 ")
	adds(t, g, nil, []int{1, 2}, 1, "", 3)
}

func TestAddRefusesLongCalendars(t *testing.T) {
	g := commit.New()
	refusesToAdd(t, g, sized(t, api.MaxText+1), nil, 9, "", api.ErrBound)
	refusesToAdd(t, g, sized(t, api.MaxText+api.MaxText/3), nil, 9, "", api.ErrBound)
	most := sized(t, api.MaxText)
	adds(t, g, most, nil, 9, "", 1)
	if b, err := g.Book(1); err != nil || !book.Same(b, most) {
		t.Error(err)
	}
	// Also where nothing has room.
	fill(t, g.Pool(), api.MaxTexts)
	refusesToAdd(t, g, sized(t, api.MaxText+1), []int{1}, 9, "", api.ErrBound)
}

// TestAddWithoutRoom: both texts are put, or none; what is there needs no room.
func TestAddWithoutRoom(t *testing.T) {
	for room := range 4 {
		g := commit.New()
		there := add(t, g, titled(t, "a"), 1)
		fill(t, g.Pool(), api.MaxTexts-room)
		next := g.Pool().Len()
		adds(t, g, titled(t, "a"), nil, 1, "at 1", there)
		if room < 2 {
			refusesToAdd(t, g, titled(t, "b"), []int{there}, 2, "", api.ErrFull)
		}
		if room < 1 {
			refusesToAdd(t, g, titled(t, "a"), []int{there}, 2, "", api.ErrFull)
			continue
		}
		other := commit.Of(g.Pool())
		adds(t, other, titled(t, "a"), []int{there}, 2, "", next)
		if room > 1 {
			adds(t, g, titled(t, "b"), []int{there}, 2, "", next+1)
		}
	}
}

// TestAddFindsItsCommit: a text that was put by hand may be the commit's of a calendar that was not there; then one has room where two would have none.
func TestAddFindsItsCommit(t *testing.T) {
	g := graphOf(t, "commit 999\n1 x")
	fill(t, g.Pool(), api.MaxTexts-1)
	refusesToAdd(t, g, titled(t, "a"), nil, 1, "y", api.ErrFull)
	adds(t, g, titled(t, "a"), nil, 1, "x", 0)
	if b, err := g.Book(0); err != nil || !book.Same(b, titled(t, "a")) || g.Pool().Len() != api.MaxTexts {
		t.Error(err)
	}
}
