package sweep_test

import (
	"fmt"
	"math/rand"
	"slices"
	"strconv"
	"testing"

	"lammastide/api"
	"lammastide/commit"
	"lammastide/pool"
	"lammastide/refs"
	"lammastide/sweep"
)

// isSame, whichever of the two stands first; and nothing is changed.
func isSame(t *testing.T, g *commit.Graph, r *refs.Refs, h *commit.Graph, s *refs.Refs, want bool) {
	t.Helper()
	ahead := []string{g.Pool().Text(), r.Text(), h.Pool().Text(), s.Text()}
	for range 2 {
		if sweep.Same(g, r, h, s) != want {
			t.Errorf("%q and %q: %v", r.Text(), s.Text(), !want)
		}
		g, r, h, s = h, s, g, r
	}
	if !slices.Equal(ahead, []string{g.Pool().Text(), r.Text(), h.Pool().Text(), s.Text()}) {
		t.Errorf("%q and %q: something is changed", ahead[1], ahead[3])
	}
}

// TestSameNames: of one graph.
func TestSameNames(t *testing.T) {
	g := commit.New()
	a := add(t, g, "a", 1)
	add(t, g, "b", 2, a)
	logs := []string{
		"", "main 1:1\n", "main 2:1\n", "main 1:3\n", "other 1:1\n", "main 1:1\nother 1:1\n",
		"main 1:1 1:1\n", "main 1:1 2:3\n", "main 1:1 3:3\n", "main 1:3 2:1\n", "main 1:1 2:-\n", "main 1:1 3:-\n",
		"main 1:1 2:- 2:1\n", "main 1:1 2:1 2:1\n", "main 1:1 2:1 2:-\n", "main 1:1\nother 1:1 1:-\n",
	}
	for i, one := range logs {
		for j, other := range logs {
			isSame(t, g, names(t, one), g, names(t, other), i == j)
		}
	}
}

// TestWhatNamesTellAlone: what no name ever was does not count, however unlike it is.
func TestWhatNamesTellAlone(t *testing.T) {
	g, h := commit.New(), commit.New()
	isSame(t, g, refs.New(), h, refs.New(), true)
	a := add(t, g, "a", 1)
	isSame(t, g, refs.New(), h, refs.New(), true)
	add(t, h, "b", 1)
	b := add(t, h, "a", 1)
	r, s := names(t, "main 1:"+strconv.Itoa(a)+"\n"), names(t, "main 1:"+strconv.Itoa(b)+"\n")
	isSame(t, g, r, h, s, true)
	// Numbers alone don't make them alike.
	isSame(t, g, r, h, r, false)
	add(t, g, "c", 1, a)
	isSame(t, g, r, h, s, true)
}

// shape of a graph: its last commit, by what is unlike in it.
type shape struct {
	what string
	make func(t *testing.T, g *commit.Graph) int
}

// shapes: none of them is alike another one.
var shapes = []shape{
	{"two ways", func(t *testing.T, g *commit.Graph) int { return ways(t, g, "root", "a", "b", 1, "", false) }},
	{"parents turned", func(t *testing.T, g *commit.Graph) int { return ways(t, g, "root", "a", "b", 1, "", true) }},
	{"the root's calendar", func(t *testing.T, g *commit.Graph) int { return ways(t, g, "other", "a", "b", 1, "", false) }},
	{"an empty calendar", func(t *testing.T, g *commit.Graph) int { return ways(t, g, "", "a", "b", 1, "", false) }},
	{"the first one's calendar", func(t *testing.T, g *commit.Graph) int { return ways(t, g, "root", "c", "b", 1, "", false) }},
	{"the second one's calendar", func(t *testing.T, g *commit.Graph) int { return ways(t, g, "root", "a", "c", 1, "", false) }},
	{"the root's time", func(t *testing.T, g *commit.Graph) int { return ways(t, g, "root", "a", "b", 2, "", false) }},
	{"the root's note", func(t *testing.T, g *commit.Graph) int { return ways(t, g, "root", "a", "b", 1, "x", false) }},
	{"one parent", func(t *testing.T, g *commit.Graph) int {
		return add(t, g, "both", 9, add(t, g, "a", 3, add(t, g, "root", 1)))
	}},
	{"no parent", func(t *testing.T, g *commit.Graph) int { return add(t, g, "both", 9) }},
	{"its time", func(t *testing.T, g *commit.Graph) int { return add(t, g, "both", 10) }},
	{"its note", func(t *testing.T, g *commit.Graph) int { return addNoted(t, g, "both", 9, "x") }},
	{"its calendar", func(t *testing.T, g *commit.Graph) int { return add(t, g, "one", 9) }},
	{"two roots", func(t *testing.T, g *commit.Graph) int {
		return add(t, g, "both", 9, add(t, g, "a", 3, add(t, g, "root", 1)), add(t, g, "b", 3))
	}},
	{"a longer way", func(t *testing.T, g *commit.Graph) int {
		root := add(t, g, "root", 1)
		return add(t, g, "both", 9, add(t, g, "a", 3, root), add(t, g, "b", 3, add(t, g, "root", 1, root)))
	}},
}

// ways: two commits of one root, and one of both.
func ways(t *testing.T, g *commit.Graph, root, first, second string, at int, note string, turned bool) int {
	n := addNoted(t, g, root, at, note)
	parents := []int{add(t, g, first, 3, n), add(t, g, second, 3, n)}
	if turned {
		slices.Reverse(parents)
	}
	return add(t, g, "both", 9, parents...)
}

// TestSameCommits: alike up to the root, whatever numbers they have.
func TestSameCommits(t *testing.T) {
	for i, one := range shapes {
		g := commit.New()
		r := names(t, "main 9:"+strconv.Itoa(one.make(t, g))+"\n")
		for j, other := range shapes {
			h := commit.New()
			// So that the numbers are others.
			add(t, h, "b", 0)
			add(t, h, "a", 3)
			s := names(t, "main 9:"+strconv.Itoa(other.make(t, h))+"\n")
			if isSame(t, g, r, h, s, i == j); t.Failed() {
				t.Fatalf("%s, %s", one.what, other.what)
			}
		}
	}
}

// TestParentsByTheirOrder: which of them was added first does not count.
func TestParentsByTheirOrder(t *testing.T) {
	g, h := commit.New(), commit.New()
	r := names(t, "main 9:"+strconv.Itoa(ways(t, g, "root", "a", "b", 1, "", true))+"\n")
	s := names(t, "main 9:"+strconv.Itoa(ways(t, h, "root", "b", "a", 1, "", false))+"\n")
	isSame(t, g, r, h, s, true)
	isSame(t, g, r, g, s, true)
}

// TestEveryEntryCounts: the first and the last one, of the first and the last name, also of one that was dropped.
func TestEveryEntryCounts(t *testing.T) {
	g, h := commit.New(), commit.New()
	a, b := add(t, g, "a", 1), add(t, g, "b", 1)
	other := add(t, h, "x", 1)
	if n, k := add(t, h, "a", 1), add(t, h, "b", 1); n != a+2 || k != b+2 || other != a {
		t.Fatal(n, k)
	}
	const form = "m 1:%d 2:%d 3:%d\nn 1:%d\no 1:%d 2:-\n"
	r := names(t, fmt.Sprintf(form, a, b, a, b, a))
	is := []any{a + 2, b + 2, a + 2, b + 2, a + 2}
	isSame(t, g, r, h, names(t, fmt.Sprintf(form, is...)), true)
	for i := range is {
		unlike := slices.Clone(is)
		unlike[i] = other
		isSame(t, g, r, h, names(t, fmt.Sprintf(form, unlike...)), false)
	}
}

// TestOneIsNotTwo: two entries are at one commit, or at two that are not alike.
func TestOneIsNotTwo(t *testing.T) {
	g := commit.New()
	a := add(t, g, "a", 1)
	b := add(t, g, "a", 1, a)
	isSame(t, g, names(t, "m 1:1 2:1\n"), g, names(t, "m 1:1 2:2\n"), false)
	isSame(t, g, names(t, "m 1:2 2:1\n"), g, names(t, "m 1:2 2:2\n"), false)
	if a != 1 || b != 2 {
		t.Error(a, b)
	}
}

// TestSameRefusesWhatIsNone, on one side or on both, at whichever entry.
func TestSameRefusesWhatIsNone(t *testing.T) {
	g := commit.New()
	add(t, g, "a", 1)
	for _, to := range []int{0, 2, 3, api.MaxTime} {
		none := strconv.Itoa(to)
		for _, log := range []string{"m 1:" + none + "\n", "m 1:1 2:" + none + "\n", "m 1:" + none + " 2:1\n", "m 1:" + none + " 2:-\n", "a 1:" + none + "\nm 1:1\n", "m 1:1\nz 1:" + none + "\n"} {
			r := names(t, log)
			isSame(t, g, r, g, r, false)
			well := r.Renumbered(func(int) int { return 1 })
			isSame(t, g, well, g, well, true)
			isSame(t, g, r, g, well, false)
			isSame(t, commit.New(), r, g, well, false)
		}
	}
	// Also where the other one is as empty as can be.
	empty := commit.New()
	add(t, empty, "", 0)
	for _, log := range []string{"m 1:0\n", "m 1:2\n"} {
		isSame(t, empty, names(t, log), empty, names(t, "m 1:1\n"), false)
	}
}

// TestMadeByHand: of such graphs nothing is promised; every call ends all the same.
func TestMadeByHand(t *testing.T) {
	p := pool.New()
	for _, text := range []string{"", "commit 0 1\n1 ", "commit 0 3\n1 ", "commit 0 2\n1 ", "commit 99\n1 ", "commit 5 1\n1 ", "commit 0 99\n1 ", "x", "commit 7\n1 "} {
		if _, err := p.Put(text); err != nil {
			t.Fatal(err)
		}
	}
	g := commit.Of(p)
	for n := range p.Len() {
		r := names(t, "m 1:"+strconv.Itoa(n)+"\n")
		if _, err := sweep.Live(g, r); err != nil {
			refuses(t, g, r, err)
		}
		if h, s, err := sweep.Sweep(g, r); (h == nil || s == nil) != (err != nil) {
			t.Error(n, err)
		}
		// A calendar that is none makes nothing alike, neither do texts that are no commits.
		isSame(t, g, r, g, r, n >= 1 && n <= 3)
	}
	alike := commit.New()
	add(t, alike, "", 1)
	isSame(t, g, names(t, "m 1:4\n"), alike, names(t, "m 1:1\n"), false)
}

// described: each commit has a number that tells At, Note, calendar and the parents' own such numbers, by the words of P121.
func described(t *testing.T, known map[string]int, g *commit.Graph, n int) int {
	t.Helper()
	c, err := g.Get(n)
	if err != nil {
		t.Fatal(err)
	}
	b, err := g.Book(n)
	if err != nil {
		t.Fatal(err)
	}
	var parents []int
	for _, parent := range c.Parents {
		parents = append(parents, described(t, known, g, parent))
	}
	text := fmt.Sprintf("%d %q %q %v", c.At, c.Note, b.Text(), parents)
	if _, is := known[text]; !is {
		known[text] = len(known)
	}
	return known[text]
}

// smallGraph of few commits that are often alike, and names of them.
func smallGraph(t *testing.T, random *rand.Rand) (*commit.Graph, *refs.Refs) {
	t.Helper()
	g := commit.New()
	var commits []int
	for range 1 + random.Intn(4) {
		var parents []int
		if len(commits) > 0 && random.Intn(3) > 0 {
			parents = append(parents, commits[random.Intn(len(commits))])
		}
		if len(parents) > 0 && random.Intn(3) == 0 {
			if n := commits[random.Intn(len(commits))]; n != parents[0] {
				parents = append(parents, n)
			}
		}
		commits = append(commits, addNoted(t, g, []string{"", "a"}[random.Intn(2)], 1, []string{"", "", "x"}[random.Intn(3)], parents...))
	}
	log := "m 1:" + strconv.Itoa(commits[len(commits)-1])
	if random.Intn(3) == 0 {
		log += " 1:" + strconv.Itoa(commits[random.Intn(len(commits))])
	}
	return g, names(t, log+"\n")
}

// TestSameAgainstItsWords: over pairs of graphs, many of which are alike.
func TestSameAgainstItsWords(t *testing.T) {
	random := rand.New(rand.NewSource(121))
	kinds := map[bool]int{}
	for range 15000 {
		g, r := smallGraph(t, random)
		h, s := smallGraph(t, random)
		known := map[string]int{}
		one := r.Renumbered(func(n int) int { return described(t, known, g, n) }).Text()
		other := s.Renumbered(func(n int) int { return described(t, known, h, n) }).Text()
		isSame(t, g, r, h, s, one == other)
		isSame(t, g, r, g, r, true)
		kinds[one == other]++
		if t.Failed() {
			t.Fatalf("%q, %q", g.Pool().Text(), h.Pool().Text())
		}
	}
	if kinds[true] < 500 || kinds[false] < 500 {
		t.Errorf("%v: too few to tell", kinds)
	}
}

// TestManyPairs: graphs in which nearly each commit meets each other one before they are seen to be unlike.
func TestManyPairs(t *testing.T) {
	g, h := commit.New(), commit.New()
	last := []int{0, 0}
	for i, graph := range []*commit.Graph{g, h} {
		ahead := []int{add(t, graph, "", 0)}
		ahead = append(ahead, add(t, graph, "", 0, ahead...))
		for graph.Pool().Len() < api.MaxTexts/2 {
			parents := slices.Clone(ahead)
			if i > 0 {
				slices.Reverse(parents)
			}
			ahead = []int{ahead[1], add(t, graph, "", 0, parents...)}
		}
		last[i] = ahead[1]
	}
	isSame(t, g, names(t, "m 1:"+strconv.Itoa(last[0])+"\n"), h, names(t, "m 1:"+strconv.Itoa(last[1])+"\n"), false)
}
