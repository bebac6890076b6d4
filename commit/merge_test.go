package commit_test

import (
	"math"
	"math/rand"
	"slices"
	"strconv"
	"strings"
	"testing"

	"lammastide/api"
	"lammastide/book"
	"lammastide/commit"
	"lammastide/merge"
)

// merges: Merge answers a commit of both, with this calendar's text.
func merges(t *testing.T, g *commit.Graph, a, b, at int, note, want string) int {
	t.Helper()
	n, clashes, err := g.Merge(a, b, at, note)
	if err != nil || len(clashes) > 0 {
		t.Fatalf("%d and %d at %d: %v, %v", a, b, at, clashes, err)
	}
	c, err := g.Get(n)
	if err != nil || !slices.Equal(c.Parents, []int{a, b}) || c.At != at || c.Note != note {
		t.Errorf("%d and %d at %d: %v, %v", a, b, at, c, err)
	}
	if joined, err := g.Book(n); err != nil || joined.Text() != want {
		t.Errorf("%d and %d: %q, %v; want %q", a, b, joined.Text(), err, want)
	}
	return n
}

// refusesToMerge: Merge tells just this error and these clashes, and changes nothing.
func refusesToMerge(t *testing.T, g *commit.Graph, a, b, at int, note string, want error, clashes ...merge.Clash) {
	t.Helper()
	before := g.Pool().Text()
	n, l, err := g.Merge(a, b, at, note)
	if n != 0 || err != want || !slices.Equal(l, clashes) {
		t.Errorf("%d and %d at %d: %d, %v, %v; want %v, %v", a, b, at, n, l, err, clashes, want)
	}
	if g.Pool().Text() != before {
		t.Errorf("%d and %d at %d: something is put beside %v", a, b, at, want)
	}
}

const (
	fairLine = "fair|a|2000-01-05|1|once||\n"
	longLine = "fair|a|2000-01-05|9|once||\n"
	bothLine = "fair|b|2000-01-05|9|once||\n"
	newLine  = "new||2000-01-06|1|once||\n"
)

func read(t *testing.T, s string) *book.Book {
	t.Helper()
	b, err := book.Read(s)
	if err != nil {
		t.Fatal(s, err)
	}
	return b
}

func TestMerge(t *testing.T) {
	g := commit.New()
	root := add(t, g, titled(t, "a"), 1)
	named := add(t, g, titled(t, "b"), 2, root)
	longer := add(t, g, read(t, longLine+newLine), 3, root)
	joined := merges(t, g, named, longer, 3, "both", bothLine+newLine)
	other := merges(t, g, longer, named, 4, longNote, bothLine+newLine)
	hasAncestors(t, g, joined, joined, longer, named, root)
	// From there on the base is what both were merged of.
	hasBase(t, g, joined, other, longer)
	dropped := add(t, g, read(t, bothLine), 5, joined)
	merges(t, g, other, dropped, api.MaxTime, "", bothLine)
	// The same again is the same commit.
	before := g.Pool().Text()
	if n, _, err := g.Merge(named, longer, 3, "both"); n != joined || err != nil || g.Pool().Text() != before {
		t.Error(n, err)
	}
}

// TestMergeWithoutABase: as from an empty calendar.
func TestMergeWithoutABase(t *testing.T) {
	g := commit.New()
	a, alike, other, empty, unlike := add(t, g, titled(t, "a"), 1), add(t, g, titled(t, "a"), 2), add(t, g, read(t, newLine), 3), add(t, g, nil, 4), add(t, g, titled(t, "b"), 5)
	merges(t, g, a, alike, 9, "", fairLine)
	merges(t, g, a, other, 9, "", fairLine+newLine)
	merges(t, g, a, empty, 9, "", fairLine)
	refusesToMerge(t, g, a, unlike, 9, "", api.ErrClash, merge.Clash{ID: "fair", Field: "all"})
}

// TestMergeTakesBase: of several that are left the one that Base tells, though another one would not clash.
func TestMergeTakesBase(t *testing.T) {
	for _, late := range []string{"a", "b"} {
		g := commit.New()
		titles := map[string]int{"a": 2, "b": 2}
		titles[late] = 3
		a, b := add(t, g, titled(t, "a"), titles["a"]), add(t, g, titled(t, "b"), titles["b"])
		one, two := add(t, g, titled(t, "a"), 4, a, b), add(t, g, titled(t, "c"), 4, b, a)
		if late == "a" {
			merges(t, g, one, two, 5, "", titled(t, "c").Text())
		} else {
			refusesToMerge(t, g, one, two, 5, "", api.ErrClash, merge.Clash{ID: "fair", Field: "title"})
		}
	}
}

func TestMergeTellsClashes(t *testing.T) {
	g := commit.New()
	root := add(t, g, read(t, "a||2000-01-05|1|once||\nb||2000-01-05|1|once||\nc||2000-01-05|1|once||\n"), 1)
	one := add(t, g, read(t, "a|x|2000-01-05|2|once||\nb||2000-01-05|1|once||\nc||2000-01-05|1|once||\nd|x|2000-01-05|1|once||\n"), 2, root)
	two := add(t, g, read(t, "a|y|2000-01-05|3|once||\nc|new|2000-01-05|1|once||\nd|y|2000-01-05|1|once||\n"), 2, root)
	want := []merge.Clash{{ID: "a", Field: "title"}, {ID: "a", Field: "long"}, {ID: "d", Field: "all"}}
	refusesToMerge(t, g, one, two, 3, "", api.ErrClash, want...)
	refusesToMerge(t, g, two, one, 3, "", api.ErrClash, want...)
	// Ahead of what Add would tell.
	refusesToMerge(t, g, one, two, -1, "", api.ErrClash, want...)
	refusesToMerge(t, g, one, two, 1, "", api.ErrClash, want...)
	refusesToMerge(t, g, one, two, 3, "\n", api.ErrClash, want...)
	// What is written into an answer shows in no later one.
	_, l, _ := g.Merge(one, two, 3, "")
	clear(l)
	refusesToMerge(t, g, one, two, 3, "", api.ErrClash, want...)
}

func TestMergeRefusesAncestors(t *testing.T) {
	g := commit.New()
	root := add(t, g, titled(t, "a"), 1)
	left, right := add(t, g, titled(t, "b"), 2, root), add(t, g, titled(t, "c"), 2, root)
	more := add(t, g, titled(t, "d"), 3, left)
	joined := add(t, g, nil, 4, more, right)
	for _, pair := range [][2]int{{root, root}, {root, left}, {root, more}, {left, more}, {left, joined}, {right, joined}, {joined, joined}} {
		for _, at := range []int{9, 0, -1} {
			refusesToMerge(t, g, pair[0], pair[1], at, "\n", api.ErrShape)
			refusesToMerge(t, g, pair[1], pair[0], at, "\n", api.ErrShape)
		}
	}
	// Also where they have no calendar, and where each is the other one's.
	g = graphOf(t, "x", "commit 0\n1 ", "commit 99 1\n2 ", "commit 99 4\n1 ", "commit 99 3\n2 ")
	refusesToMerge(t, g, 1, 2, 9, "", api.ErrShape)
	refusesToMerge(t, g, 3, 4, 9, "", api.ErrShape)
	refusesToMerge(t, g, 4, 4, 9, "", api.ErrShape)
}

func TestMergeRefusesWhatIsNone(t *testing.T) {
	g := graphOf(t, "", "commit 0\n1 ", "x", "commit 0 1 99\n2 ", "commit 0 2\n2 ", "commit 0 5 99\n2 ")
	for _, n := range wrongNumbersOf(g.Pool()) {
		refusesToMerge(t, g, n, 1, 9, "", api.ErrNone)
		refusesToMerge(t, g, 1, n, -1, "\n", api.ErrNone)
		refusesToMerge(t, g, n, n, 9, "", api.ErrNone)
		// The first of two.
		refusesToMerge(t, g, n, 2, 9, "", api.ErrNone)
		refusesToMerge(t, g, 2, n, 9, "", api.ErrText)
		refusesToMerge(t, g, 4, n, 9, "", api.ErrText)
		refusesToMerge(t, g, n, 4, 9, "", api.ErrNone)
	}
	for n, want := range map[int]error{0: api.ErrText, 2: api.ErrText, 3: api.ErrNone, 4: api.ErrText, 5: api.ErrNone} {
		refusesToMerge(t, g, n, 1, -1, "\n", want)
		refusesToMerge(t, g, 1, n, 9, "", want)
		refusesToMerge(t, g, n, n, 9, "", want)
	}
}

// TestMergeRefusesCalendars: the base's, then the first one's, then the second one's; ahead of clashes, and of what Add would tell.
func TestMergeRefusesCalendars(t *testing.T) {
	tree := map[string]string{"well": "0", "text": "1", "none": "99"}
	tells := map[string]error{"text": api.ErrText, "none": api.ErrNone}
	for base := range tree {
		for a := range tree {
			for b := range tree {
				g := graphOf(t, fairLine, "x", "commit "+tree[base]+"\n1 ", "commit "+tree[a]+" 2\n2 a", "commit "+tree[b]+" 2\n2 b")
				var want error
				for _, kind := range []string{b, a, base} {
					if tells[kind] != nil {
						want = tells[kind]
					}
				}
				if want == nil {
					merges(t, g, 3, 4, 2, "", fairLine)
					continue
				}
				refusesToMerge(t, g, 3, 4, 2, "", want)
				refusesToMerge(t, g, 3, 4, -1, "\n", want)
			}
		}
	}
}

// TestMergeTellsWhatAddTells where nothing clashes.
func TestMergeTellsWhatAddTells(t *testing.T) {
	g := commit.New()
	root := add(t, g, nil, 1)
	left, right := add(t, g, titled(t, "a"), 5, root), add(t, g, read(t, newLine), 6, root)
	for _, at := range []int{-1, math.MinInt, api.MaxTime + 1, math.MaxInt} {
		refusesToMerge(t, g, left, right, at, "\n", api.ErrBound)
	}
	for _, note := range []string{"\n", "\x7f", longNote + "x"} {
		refusesToMerge(t, g, left, right, 1, note, api.ErrText)
	}
	refusesToMerge(t, g, left, right, 5, "", api.ErrOrder)
	refusesToMerge(t, g, right, left, 5, "", api.ErrOrder)
	fill(t, g.Pool(), api.MaxTexts-1)
	refusesToMerge(t, g, left, right, 6, "", api.ErrFull)
}

// TestMergeMayBeTooLong: each of the two has room, and both together have none.
func TestMergeMayBeTooLong(t *testing.T) {
	g := commit.New()
	big := sized(t, api.MaxText)
	a, b := book.New(), book.New()
	for i, id := range big.IDs() {
		e, _ := big.Get(id)
		if err := []*book.Book{a, b}[i%2].Put(e); err != nil {
			t.Fatal(err)
		}
	}
	one, two := add(t, g, a, 1), add(t, g, b, 1)
	three := add(t, g, bookOf(t, append(lines(b), "z||2000-01-05|1|once||")...), 1)
	merges(t, g, one, two, 2, "", big.Text())
	refusesToMerge(t, g, one, three, 2, "", api.ErrBound)
}

// lines of a calendar, without their ends.
func lines(b *book.Book) []string {
	return strings.FieldsFunc(b.Text(), func(r rune) bool { return r == '\n' })
}

// someBook of few events with few titles, so that ways often meet.
func someBook(t *testing.T, r *rand.Rand) *book.Book {
	t.Helper()
	var texts []string
	for _, id := range []string{"a", "b"} {
		if r.Intn(4) > 0 {
			texts = append(texts, id+"|"+strconv.Itoa(r.Intn(2))+"|2000-01-05|"+strconv.Itoa(1+r.Intn(2))+"|once||")
		}
	}
	return bookOf(t, texts...)
}

// mergePlainly: P93, with the words of P92; the text of what is made, and the clashes.
func mergePlainly(g *commit.Graph, a, b, at int) (string, []merge.Clash, error) {
	ofA, errA := family(g, a)
	ofB, errB := family(g, b)
	switch {
	case errA != nil:
		return "", nil, errA
	case errB != nil:
		return "", nil, errB
	case slices.Contains(ofA, b) || slices.Contains(ofB, a):
		return "", nil, api.ErrShape
	}
	base := book.New()
	if n, is := basePlainly(g, a, b); is {
		base, _ = g.Book(n)
	}
	bookA, _ := g.Book(a)
	bookB, _ := g.Book(b)
	joined, clashes := merge.Three(base, bookA, bookB)
	commitA, _ := g.Get(a)
	commitB, _ := g.Get(b)
	switch {
	case len(clashes) > 0:
		return "", clashes, api.ErrClash
	case commitA.At > at || commitB.At > at:
		return "", nil, api.ErrOrder
	}
	return joined.Text(), nil, nil
}

// TestMergeAgainstItsWords: graphs that Add and Merge made alone.
func TestMergeAgainstItsWords(t *testing.T) {
	r := rand.New(rand.NewSource(93))
	kinds := map[error]int{}
	for range 300 {
		g := commit.New()
		commits := []int{add(t, g, someBook(t, r), 0)}
		for at := 1; at < 20; at++ {
			a, b := commits[r.Intn(len(commits))], commits[r.Intn(len(commits))]
			if r.Intn(2) == 0 {
				commits = append(commits, add(t, g, someBook(t, r), at, a))
				continue
			}
			when := max(at-r.Intn(3), 0)
			text, clashes, err := mergePlainly(g, a, b, when)
			kinds[err]++
			if err != nil {
				refusesToMerge(t, g, a, b, when, "m", err, clashes...)
				continue
			}
			commits = append(commits, merges(t, g, a, b, when, "m", text))
		}
	}
	for _, kind := range []error{nil, api.ErrShape, api.ErrClash, api.ErrOrder} {
		if kinds[kind] < 20 {
			t.Errorf("%v comes %d times: too few to tell", kind, kinds[kind])
		}
	}
}
