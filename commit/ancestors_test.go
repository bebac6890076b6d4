package commit_test

import (
	"math/rand"
	"slices"
	"strconv"
	"strings"
	"testing"

	"lammastide/api"
	"lammastide/commit"
)

// hasAncestors: just these, in this order, and Is tells the same of them, and of all others.
func hasAncestors(t *testing.T, g *commit.Graph, n int, want ...int) {
	t.Helper()
	for range 2 {
		l, err := g.Ancestors(n)
		if err != nil || !slices.Equal(l, want) {
			t.Fatalf("%d: %v, %v; want %v", n, l, err, want)
		}
		// It shows in no later answer.
		clear(l)
	}
	for a := -1; a <= g.Pool().Len(); a++ {
		if g.Is(a, n) != slices.Contains(want, a) {
			t.Errorf("%d of %d: %v", a, n, g.Is(a, n))
		}
	}
}

// hasNoAncestors: just this error; and of none it is said that it is one.
func hasNoAncestors(t *testing.T, g *commit.Graph, n int, want error) {
	t.Helper()
	if l, err := g.Ancestors(n); len(l) > 0 || err != want {
		t.Errorf("%d: %v, %v; want %v", n, l, err, want)
	}
	for a := -1; a <= g.Pool().Len(); a++ {
		if g.Is(a, n) {
			t.Errorf("%d of %d", a, n)
		}
	}
	if g.Is(n, n) {
		t.Errorf("%d of itself", n)
	}
}

// hasBase: this one, whichever of the two stands first.
func hasBase(t *testing.T, g *commit.Graph, a, b, want int) {
	t.Helper()
	for range 2 {
		if n, is := g.Base(a, b); n != want || !is {
			t.Errorf("%d and %d: %d, %v; want %d", a, b, n, is, want)
		}
		a, b = b, a
	}
}

func hasNoBase(t *testing.T, g *commit.Graph, a, b int) {
	t.Helper()
	for range 2 {
		if n, is := g.Base(a, b); n != 0 || is {
			t.Errorf("%d and %d: %d, %v", a, b, n, is)
		}
		a, b = b, a
	}
}

func TestAncestors(t *testing.T) {
	g := commit.New()
	a := add(t, g, nil, 1)
	b := add(t, g, nil, 2, a)
	c := add(t, g, titled(t, "c"), 2, a)
	d := add(t, g, nil, 5, c, b)
	e := add(t, g, nil, 4, b)
	f := add(t, g, nil, 6, d, e)
	alone := add(t, g, nil, 3)
	hasAncestors(t, g, a, a)
	hasAncestors(t, g, b, b, a)
	hasAncestors(t, g, c, c, a)
	hasAncestors(t, g, d, d, c, b, a)
	hasAncestors(t, g, e, e, b, a)
	hasAncestors(t, g, f, f, d, e, c, b, a)
	hasAncestors(t, g, alone, alone)
}

// TestAncestorsByTimes: not by numbers, and not by how far they are; of one time the greater number first.
func TestAncestorsByTimes(t *testing.T) {
	g := graphOf(t, "commit 0 1 2\n5 ", "commit 0 3\n5 x", "commit 0 4\n4 ", "commit 0\n3 ", "commit 0 5\n7 ", "commit 0\n5 y")
	hasAncestors(t, g, 0, 4, 5, 1, 0, 2, 3)
	hasAncestors(t, g, 2, 4, 5, 2)
}

// TestAncestorsByNumbers, not by their digits; and times of the greatest size.
func TestAncestorsByNumbers(t *testing.T) {
	g := commit.New()
	last := add(t, g, nil, 3)
	want := []int{last}
	for i := range 20 {
		n, err := g.Add(nil, []int{last}, 3, strconv.Itoa(i))
		if err != nil {
			t.Fatal(err)
		}
		last, want = n, append([]int{n}, want...)
	}
	hasAncestors(t, g, last, want...)
	old := last
	last = add(t, g, nil, api.MaxTime, last)
	hasAncestors(t, g, last, append([]int{last}, want...)...)
	hasAncestors(t, g, old, want...)
}

func TestAncestorsRefuses(t *testing.T) {
	g := graphOf(t, "", "commit 0\n1 ", "x", "commit 0 1 2 3\n0 ")
	for _, n := range wrongNumbersOf(g.Pool()) {
		hasNoAncestors(t, g, n, api.ErrNone)
		hasNoBase(t, g, n, 1)
		hasNoBase(t, g, n, n)
	}
	for _, n := range []int{0, 2, 3} {
		hasNoAncestors(t, g, n, api.ErrText)
		hasNoBase(t, g, n, 1)
		hasNoBase(t, g, n, n)
	}
	hasAncestors(t, g, 1, 1)
	hasBase(t, g, 1, 1, 1)
}

// TestFirstThatIsNone: the nearest one; of those that are as near the first by their children's order.
func TestFirstThatIsNone(t *testing.T) {
	texts := []string{
		"text", "commit 0\n1 ", "commit 0 99\n2 ", "commit 0 0\n2 ",
		"commit 0 1 99\n3 ", "commit 0 1 0\n3 ", "commit 0 99 0\n3 ", "commit 0 0 99\n3 ",
		"commit 0 2 3\n4 ", "commit 0 3 2\n4 ", "commit 0 2 0\n4 ", "commit 0 3 99\n4 ", "commit 0 0 2\n4 ", "commit 0 99 3\n4 ",
		"commit 0 1099511627776\n4 ", "commit 0 10 9\n5 ", "commit 0 1 15\n6 ",
	}
	g := graphOf(t, texts...)
	hasAncestors(t, g, 1, 1)
	for n, want := range map[int]error{
		2: api.ErrNone, 3: api.ErrText, 4: api.ErrNone, 5: api.ErrText, 6: api.ErrNone, 7: api.ErrText,
		8: api.ErrNone, 9: api.ErrText, 10: api.ErrText, 11: api.ErrNone, 12: api.ErrText, 13: api.ErrNone,
		14: api.ErrNone, 15: api.ErrText, 16: api.ErrText,
	} {
		hasNoAncestors(t, g, n, want)
		hasNoBase(t, g, n, n)
		hasNoBase(t, g, n, 1)
	}
}

// TestRounds: texts that were put by hand may be each other's parents; every call ends.
func TestRounds(t *testing.T) {
	g := graphOf(t, "commit 0 0\n1 ", "commit 0 2\n1 ", "commit 0 1\n2 ", "commit 0 1 0\n3 ", "commit 0 3 3\n4 ", "commit 0 0 0\n5 ")
	hasAncestors(t, g, 0, 0)
	hasAncestors(t, g, 1, 2, 1)
	hasAncestors(t, g, 2, 2, 1)
	hasAncestors(t, g, 3, 3, 2, 1, 0)
	hasAncestors(t, g, 4, 4, 3, 2, 1, 0)
	// That it is its own parent makes it no ancestor of another one.
	hasBase(t, g, 0, 0, 0)
	hasBase(t, g, 0, 3, 0)
	hasBase(t, g, 5, 3, 0)
	hasBase(t, g, 4, 3, 3)
	// Of two that are each other's ancestors none is left.
	hasNoBase(t, g, 1, 1)
	hasNoBase(t, g, 1, 2)
	hasNoBase(t, g, 1, 3)
}

func TestBase(t *testing.T) {
	g := commit.New()
	root := add(t, g, nil, 1)
	left, right := add(t, g, nil, 2, root), add(t, g, nil, 3, root)
	more := add(t, g, nil, 4, left)
	alone := add(t, g, nil, 9)
	hasBase(t, g, root, root, root)
	hasBase(t, g, left, left, left)
	hasBase(t, g, root, left, root)
	hasBase(t, g, left, right, root)
	hasBase(t, g, more, right, root)
	hasBase(t, g, more, left, left)
	hasNoBase(t, g, alone, more)
	hasNoBase(t, g, alone, root)
	joined := add(t, g, nil, 10, alone, more)
	hasBase(t, g, joined, alone, alone)
	hasBase(t, g, joined, right, root)
	hasBase(t, g, joined, left, left)
}

// TestBaseOfSeveral: of those that are left the latest, of one time the greatest number.
func TestBaseOfSeveral(t *testing.T) {
	g := commit.New()
	root := add(t, g, nil, 1)
	late, early := add(t, g, nil, 5, root), add(t, g, nil, 2, root)
	one, two := add(t, g, nil, 6, late, early), add(t, g, nil, 7, early, late)
	hasBase(t, g, one, two, late)
	again := add(t, g, titled(t, "x"), 5, root)
	three, four := add(t, g, nil, 8, late, again), add(t, g, nil, 9, again, late)
	hasBase(t, g, three, four, again)
	hasBase(t, g, one, four, late)
	hasBase(t, g, two, add(t, g, nil, 8, early), early)
}

// TestBaseIsNoAncestorOfAnother, also where one has a later time than its child, as by hand it may have.
func TestBaseIsNoAncestorOfAnother(t *testing.T) {
	g := graphOf(t, "commit 0\n9 ", "commit 0 0\n1 ", "commit 0 1\n2 ", "commit 0 1 0\n3 ", "commit 0 0 1\n4 ")
	hasBase(t, g, 2, 3, 1)
	hasBase(t, g, 3, 4, 1)
	hasBase(t, g, 1, 4, 1)
	hasBase(t, g, 0, 4, 0)
}

// TestLongLadders: as many commits as a pool has room for, and more ways through them than could be gone one by one.
func TestLongLadders(t *testing.T) {
	g := commit.New()
	left := add(t, g, nil, 0)
	right := add(t, g, nil, 1)
	steps := []int{right, left}
	for at := 2; g.Pool().Len() < api.MaxTexts-1; at++ {
		left, right = add(t, g, nil, at, left, right), add(t, g, nil, at, right, left)
		steps = append([]int{right, left}, steps...)
	}
	hasAncestors(t, g, left, slices.DeleteFunc(slices.Clone(steps), func(n int) bool { return n == right })...)
	hasBase(t, g, left, right, steps[2])
}

// family of a commit, by the words of P92: grown until nothing is new; and the error of the nearest that is none.
func family(g *commit.Graph, n int) ([]int, error) {
	list, level := []int(nil), []int{n}
	for len(level) > 0 {
		var next []int
		for _, one := range level {
			c, err := g.Get(one)
			if err != nil {
				return nil, err
			}
			if !slices.Contains(list, one) {
				list, next = append(list, one), append(next, c.Parents...)
			}
		}
		level = next
	}
	return list, nil
}

// later of two, by P92's order.
func later(g *commit.Graph, a, b int) bool {
	ofA, _ := g.Get(a)
	ofB, _ := g.Get(b)
	return ofA.At > ofB.At || ofA.At == ofB.At && a > b
}

// basePlainly: the words of P92, one by one.
func basePlainly(g *commit.Graph, a, b int) (int, bool) {
	ofA, errA := family(g, a)
	ofB, errB := family(g, b)
	if errA != nil || errB != nil {
		return 0, false
	}
	common := slices.DeleteFunc(slices.Clone(ofA), func(n int) bool { return !slices.Contains(ofB, n) })
	best, is := 0, false
	for _, n := range common {
		ahead := slices.ContainsFunc(common, func(other int) bool {
			of, _ := family(g, other)
			return other != n && slices.Contains(of, n)
		})
		if !ahead && (!is || later(g, n, best)) {
			best, is = n, true
		}
	}
	return best, is
}

// someGraph, whose texts are put by hand: parents may be any number, also one that is none.
func someGraph(t *testing.T, r *rand.Rand) *commit.Graph {
	t.Helper()
	var texts []string
	many := 2 + r.Intn(10)
	for i := range many {
		c := commit.Commit{At: r.Intn(4), Note: strconv.Itoa(i)}
		for range r.Intn(3) {
			parent := r.Intn(max(i, 1)) // most often one that stands ahead
			if r.Intn(8) == 0 {
				parent = r.Intn(many + 1)
			}
			c.Parents = append(c.Parents, parent)
		}
		text := commit.Text(c)
		if r.Intn(20) == 0 {
			text = "text " + strconv.Itoa(i)
		}
		texts = append(texts, text)
	}
	return graphOf(t, texts...)
}

// TestAgainstItsWords: P92 and P94, over graphs of any kind.
func TestAgainstItsWords(t *testing.T) {
	r := rand.New(rand.NewSource(9))
	kinds := map[string]int{}
	for range 3000 {
		g := someGraph(t, r)
		for n := range g.Pool().Len() {
			want, err := family(g, n)
			if err != nil {
				hasNoAncestors(t, g, n, err)
				kinds["none"]++
				continue
			}
			slices.SortFunc(want, func(a, b int) int {
				if later(g, a, b) {
					return -1
				}
				return 1
			})
			hasAncestors(t, g, n, want...)
			for _, a := range want {
				// An ancestor of an ancestor is one.
				l, err := g.Ancestors(a)
				if err != nil || slices.ContainsFunc(l, func(x int) bool { return !g.Is(x, n) }) {
					t.Errorf("%d of %d: %v, %v", a, n, l, err)
				}
			}
			for b := range g.Pool().Len() {
				if base, is := basePlainly(g, n, b); is {
					hasBase(t, g, n, b, base)
					kinds["base"]++
					if !g.Is(base, n) || !g.Is(base, b) {
						t.Errorf("%d is no ancestor of %d and %d", base, n, b)
					}
				} else {
					hasNoBase(t, g, n, b)
					kinds["no base"]++
				}
			}
		}
		if t.Failed() {
			t.Fatal(strings.ReplaceAll(g.Pool().Text(), "\n", " / "))
		}
	}
	for _, kind := range []string{"none", "base", "no base"} {
		if kinds[kind] < 1000 {
			t.Errorf("%s comes %d times: too few to tell", kind, kinds[kind])
		}
	}
}
