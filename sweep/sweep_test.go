package sweep_test

import (
	"math/rand"
	"slices"
	"strconv"
	"strings"
	"testing"

	"lammastide/api"
	"lammastide/book"
	"lammastide/commit"
	"lammastide/refs"
	"lammastide/sweep"
)

// titled: a calendar of one event.
func titled(t *testing.T, title string) *book.Book {
	t.Helper()
	b, err := book.Read(line(title))
	if err != nil {
		t.Fatal(title, err)
	}
	return b
}

// line: the text of that calendar.
func line(title string) string { return "fair|" + title + "|2000-01-05|1|once||\n" }

// add a commit of such a calendar ("": of an empty one).
func add(t *testing.T, g *commit.Graph, title string, at int, parents ...int) int {
	t.Helper()
	return addNoted(t, g, title, at, "", parents...)
}

func addNoted(t *testing.T, g *commit.Graph, title string, at int, note string, parents ...int) int {
	t.Helper()
	b := book.New()
	if title != "" {
		b = titled(t, title)
	}
	n, err := g.Add(b, parents, at, note)
	if err != nil {
		t.Fatal(title, at, parents, err)
	}
	return n
}

// names of a text that is well.
func names(t *testing.T, s string) *refs.Refs {
	t.Helper()
	r, err := refs.Read(s)
	if err != nil {
		t.Fatalf("%q: %v", s, err)
	}
	return r
}

// hasLive: just these texts; and neither the graph nor the names change.
func hasLive(t *testing.T, g *commit.Graph, r *refs.Refs, want ...int) {
	t.Helper()
	texts, log := g.Pool().Text(), r.Text()
	for range 2 {
		l, err := sweep.Live(g, r)
		if err != nil || !slices.Equal(l, want) {
			t.Errorf("%q: %v, %v; want %v", r.Text(), l, err, want)
		}
		// It shows in no later answer.
		clear(l)
	}
	if g.Pool().Text() != texts || r.Text() != log {
		t.Errorf("%q: something is changed", log)
	}
}

// sweeps: what is left are just these texts and names, the same as before, and a second sweep leaves them so.
func sweeps(t *testing.T, g *commit.Graph, r *refs.Refs, texts []string, log string) (*commit.Graph, *refs.Refs) {
	t.Helper()
	ahead, logAhead := g.Pool().Text(), r.Text()
	h, s, err := sweep.Sweep(g, r)
	if err != nil {
		t.Fatalf("%q: %v", logAhead, err)
	}
	var left []string
	for n := range h.Pool().Len() {
		text, _ := h.Pool().Get(n)
		left = append(left, text)
	}
	if !slices.Equal(left, texts) || s.Text() != log {
		t.Errorf("%q: %q, %q; want %q, %q", logAhead, left, s.Text(), texts, log)
	}
	if g.Pool().Text() != ahead || r.Text() != logAhead {
		t.Errorf("%q: something is changed", logAhead)
	}
	staysSame(t, g, r, h, s)
	return h, s
}

// staysSame: P122, of what a sweep left.
func staysSame(t *testing.T, g *commit.Graph, r *refs.Refs, h *commit.Graph, s *refs.Refs) {
	t.Helper()
	isSame(t, g, r, h, s, true)
	again, named, err := sweep.Sweep(h, s)
	if err != nil || again.Pool().Text() != h.Pool().Text() || named.Text() != s.Text() {
		t.Errorf("%q: a second sweep: %v", r.Text(), err)
	}
	all := make([]int, h.Pool().Len())
	for i := range all {
		all[i] = i
	}
	hasLive(t, h, s, all...)
}

// refuses with just this error, bare.
func refuses(t *testing.T, g *commit.Graph, r *refs.Refs, want error) {
	t.Helper()
	texts, log := g.Pool().Text(), r.Text()
	if l, err := sweep.Live(g, r); len(l) > 0 || err != want {
		t.Errorf("%q: %v, %v; want %v", log, l, err, want)
	}
	if h, s, err := sweep.Sweep(g, r); h != nil || s != nil || err != want {
		t.Errorf("%q: %v, %v, %v; want %v", log, h, s, err, want)
	}
	if g.Pool().Text() != texts || r.Text() != log {
		t.Errorf("%q: something is changed", log)
	}
	isSame(t, g, r, g, r, false)
}

func TestNothingIsLeft(t *testing.T) {
	g := commit.New()
	hasLive(t, g, refs.New())
	sweeps(t, g, refs.New(), nil, "")
	add(t, g, "a", 1)
	hasLive(t, g, refs.New())
	sweeps(t, g, refs.New(), nil, "")
}

func TestAncestorsAreLeft(t *testing.T) {
	g := commit.New()
	lost := add(t, g, "lost", 0)
	root := add(t, g, "a", 1)
	left := add(t, g, "b", 2, root)
	beside := add(t, g, "beside", 2, root, lost)
	right := add(t, g, "c", 2, root)
	both := addNoted(t, g, "d", 3, "both", right, left)
	behind := add(t, g, "e", 4, both, beside)
	if l := []int{lost, root, left, beside, right, both, behind}; !slices.Equal(l, []int{1, 3, 5, 7, 9, 11, 13}) {
		t.Fatal(l)
	}
	hasLive(t, g, names(t, "main 1:3\n"), 2, 3)
	hasLive(t, g, names(t, "main 1:5\n"), 2, 3, 4, 5)
	hasLive(t, g, names(t, "main 1:9\n"), 2, 3, 8, 9)
	hasLive(t, g, names(t, "main 1:11\n"), 2, 3, 4, 5, 8, 9, 10, 11)
	hasLive(t, g, names(t, "main 1:13\n"), 0, 1, 2, 3, 4, 5, 6, 7, 8, 9, 10, 11, 12, 13)
	sweeps(t, g, names(t, "main 1:11\n"), []string{
		line("a"), "commit 0\n1 ", line("b"), "commit 2 1\n2 ", line("c"), "commit 4 1\n2 ", line("d"), "commit 6 5 3\n3 both",
	}, "main 1:7\n")
}

// TestAllThatEverWas: also old entries, and names that were dropped.
func TestAllThatEverWas(t *testing.T) {
	g := commit.New()
	for at := range 5 {
		add(t, g, strconv.Itoa(at), at)
	}
	hasLive(t, g, names(t, "main 5:3 6:7\n"), 2, 3, 6, 7)
	hasLive(t, g, names(t, "main 5:3 6:-\n"), 2, 3)
	hasLive(t, g, names(t, "main 5:3 6:- 7:9\n"), 2, 3, 8, 9)
	hasLive(t, g, names(t, "main 5:9\nold 5:1 6:-\n"), 0, 1, 8, 9)
	// Of one time, and to and fro.
	hasLive(t, g, names(t, "main 5:9 5:1 5:9 5:1\n"), 0, 1, 8, 9)
	sweeps(t, g, names(t, "a 5:9 6:3 7:-\nb 4:3\nold 0:5 0:- 0:5 0:-\n"), []string{
		line("1"), "commit 0\n1 ", line("2"), "commit 2\n2 ", line("4"), "commit 4\n4 ",
	}, "a 5:5 6:1 7:-\nb 4:1\nold 0:3 0:- 0:3 0:-\n")
}

// TestOneCalendarOfTwo: it is kept where one of them is left, in its place, and once.
func TestOneCalendarOfTwo(t *testing.T) {
	g := commit.New()
	lost := add(t, g, "a", 1)
	add(t, g, "", 2)
	one := add(t, g, "", 3)
	two := add(t, g, "a", 4)
	if l := []int{lost, one, two, g.Pool().Len()}; !slices.Equal(l, []int{1, 4, 5, 6}) {
		t.Fatal(l)
	}
	hasLive(t, g, names(t, "main 1:5\n"), 0, 5)
	hasLive(t, g, names(t, "main 1:4 1:5\n"), 0, 2, 4, 5)
	hasLive(t, g, names(t, "main 1:1 1:5\n"), 0, 1, 5)
	sweeps(t, g, names(t, "main 1:4 1:5\n"), []string{line("a"), "", "commit 1\n3 ", "commit 0\n4 "}, "main 1:2 1:3\n")
	sweeps(t, g, names(t, "main 1:1 1:5\n"), []string{line("a"), "commit 0\n1 ", "commit 0\n4 "}, "main 1:1 1:2\n")
}

// TestMerged: what Merge made is swept as what Add made.
func TestMerged(t *testing.T) {
	g := commit.New()
	add(t, g, "lost", 0)
	root := add(t, g, "", 1)
	left, right := add(t, g, "a", 2, root), addNoted(t, g, "", 3, "right", root)
	both, _, err := g.Merge(right, left, 5, "both")
	if err != nil {
		t.Fatal(err)
	}
	sweeps(t, g, names(t, "main 9:"+strconv.Itoa(both)+"\n"), []string{
		"", "commit 0\n1 ", line("a"), "commit 2 1\n2 ", "commit 0 1\n3 right", "commit 2 4 3\n5 both",
	}, "main 9:5\n")
}

// TestWhatIsLeftIsAnother: what is put or set on one side is not seen on the other one.
func TestWhatIsLeftIsAnother(t *testing.T) {
	g := commit.New()
	add(t, g, "lost", 0)
	a := add(t, g, "a", 1)
	r := names(t, "main 1:"+strconv.Itoa(a)+" 2:"+strconv.Itoa(a)+"\n")
	h, s := sweeps(t, g, r, []string{line("a"), "commit 0\n1 "}, "main 1:1 2:1\n")
	ahead, logAhead := g.Pool().Text(), r.Text()
	b := add(t, h, "b", 2, 1)
	if err := s.Set("main", 1, b, 3); err != nil || b != 3 {
		t.Error(b, err)
	}
	if g.Pool().Text() != ahead || r.Text() != logAhead {
		t.Error("the first one shows it")
	}
	texts, log := h.Pool().Text(), s.Text()
	c := add(t, g, "c", 2, a)
	if err := r.Set("main", a, c, 3); err != nil {
		t.Error(err)
	}
	if h.Pool().Text() != texts || s.Text() != log {
		t.Error("the second one shows it")
	}
}

// TestMoreNamesThanAreThere: far more may have been dropped than may be there at once, ahead of those and behind them.
func TestMoreNamesThanAreThere(t *testing.T) {
	g := commit.New()
	add(t, g, "lost", 0)
	a := add(t, g, "a", 1)
	var ahead, behind strings.Builder
	for i := range 3 * api.MaxRefs {
		name, end := "n"+strconv.Itoa(100+i), "\n"
		if i%3 > 0 {
			end = " 2:-\n"
		}
		ahead.WriteString(name + " 1:" + strconv.Itoa(a) + end)
		behind.WriteString(name + " 1:1" + end)
	}
	_, s := sweeps(t, g, names(t, ahead.String()), []string{line("a"), "commit 0\n1 "}, behind.String())
	if err := s.Set("x", -1, 1, 9); err != api.ErrFull {
		t.Error(err)
	}
	if l := s.Names(); len(l) != api.MaxRefs {
		t.Error(l)
	}
}

// TestFullPool: all of it is left, or half of it.
func TestFullPool(t *testing.T) {
	g := commit.New()
	var last, even int
	for at := range api.MaxTexts / 2 {
		n, err := g.Add(titled(t, strconv.Itoa(at)), []int{last, even}[:min(at, 1)], at, "")
		if err != nil {
			t.Fatal(err)
		}
		last = n
		if at == api.MaxTexts/4-1 {
			even = n
		}
	}
	if g.Pool().Len() != api.MaxTexts {
		t.Fatal(g.Pool().Len())
	}
	for n, left := range map[int]int{last: api.MaxTexts, even: api.MaxTexts / 2} {
		r := names(t, "main 1:"+strconv.Itoa(n)+"\n")
		h, s, err := sweep.Sweep(g, r)
		if err != nil || h.Pool().Len() != left {
			t.Fatal(n, err)
		}
		staysSame(t, g, r, h, s)
	}
}

func TestRefusesWhatIsNone(t *testing.T) {
	g := commit.New()
	add(t, g, "a", 1)
	add(t, g, "", 2, 1)
	for to, want := range map[string]error{"0": api.ErrText, "2": api.ErrText, "4": api.ErrNone, "5": api.ErrNone, "1000": api.ErrNone, strconv.Itoa(api.MaxTime): api.ErrNone} {
		for _, log := range []string{"main 1:TO\n", "main 1:3 2:TO\n", "main 1:TO 2:3\n", "main 1:3 2:TO 3:-\n", "a 1:1\nmain 1:3\nz 1:TO 2:-\n", "a 1:TO\nmain 1:3\nz 1:1\n"} {
			refuses(t, g, names(t, strings.ReplaceAll(log, "TO", to)), want)
		}
	}
	// A graph without texts, too.
	refuses(t, commit.New(), names(t, "main 1:0\n"), api.ErrNone)
}

// TestTellsTheFirst: by names, then by entries, the oldest first; whatever was set first.
func TestTellsTheFirst(t *testing.T) {
	g := commit.New()
	add(t, g, "a", 1)
	const text, none = "0", "2"
	for _, one := range []struct {
		log  string
		want error
	}{
		{"a 9:" + text + "\nb 1:" + none + "\n", api.ErrText},
		{"a 9:" + none + "\nb 1:" + text + "\n", api.ErrNone},
		{"a 1:" + text + " 2:" + none + "\n", api.ErrText},
		{"a 1:" + none + " 2:" + text + "\n", api.ErrNone},
		{"a 1:" + text + " 2:- 3:" + none + "\n", api.ErrText},
		{"a 1:" + none + " 2:" + text + " 3:-\n", api.ErrNone},
		{"a 1:1 2:" + none + "\nb 0:" + text + "\n", api.ErrNone},
		{"a 1:1 2:- 3:" + text + "\nb 0:" + none + "\n", api.ErrText},
		{"a 5:1\nb 1:" + none + " 2:" + text + "\nc 0:" + text + "\n", api.ErrNone},
		{"a 1:" + none + " 2:-\nb 1:" + text + "\n", api.ErrNone},
		{"a10 1:" + none + "\na9 1:" + text + "\n", api.ErrNone},
	} {
		refuses(t, g, names(t, one.log), one.want)
	}
	late := refs.New()
	for _, set := range []struct {
		name string
		to   int
	}{{"b", 2}, {"a", 0}} {
		if err := late.Set(set.name, -1, set.to, 1); err != nil {
			t.Fatal(err)
		}
	}
	refuses(t, g, late, api.ErrText)
}

// TestLongLogs, and more ways through a graph than could be gone one by one.
func TestLongLogs(t *testing.T) {
	g := commit.New()
	left, right := add(t, g, "", 0), add(t, g, "", 1)
	for at := 2; g.Pool().Len() < api.MaxTexts-1; at++ {
		left, right = add(t, g, "", at, left, right), add(t, g, "", at, right, left)
	}
	log := strings.Repeat(" 7:"+strconv.Itoa(left)+" 7:"+strconv.Itoa(right), 5000)
	r := names(t, "a"+log+"\nb"+log+"\n")
	h, s, err := sweep.Sweep(g, r)
	if err != nil || h.Pool().Text() != g.Pool().Text() || s.Text() != r.Text() {
		t.Fatal(err)
	}
	staysSame(t, g, r, h, s)
}

// livePlainly: the words of P120, one by one: all texts are looked at, again and again, until nothing is new.
func livePlainly(g *commit.Graph, tos []int) []int {
	live := slices.Clone(tos)
	for grown := true; grown; {
		grown = false
		for _, n := range live {
			c, err := g.Get(n)
			if err != nil {
				continue // a calendar's
			}
			for _, next := range append([]int{c.Tree}, c.Parents...) {
				if !slices.Contains(live, next) {
					live, grown = append(live, next), true
				}
			}
		}
	}
	slices.Sort(live)
	return slices.Compact(live)
}

// sweptPlainly: the live texts, with their places in that list as numbers.
func sweptPlainly(g *commit.Graph, live []int) []string {
	var texts []string
	for _, n := range live {
		text, _ := g.Pool().Get(n)
		if c, err := g.Get(n); err == nil {
			c.Tree = slices.Index(live, c.Tree)
			for i, parent := range c.Parents {
				c.Parents[i] = slices.Index(live, parent)
			}
			text = commit.Text(c)
		}
		texts = append(texts, text)
	}
	return texts
}

// someGraph, that Add made alone, of few calendars, and its commits.
func someGraph(t *testing.T, random *rand.Rand) (*commit.Graph, []int) {
	t.Helper()
	g := commit.New()
	var commits []int
	for at := range 1 + random.Intn(14) {
		var parents []int
		for range min(random.Intn(3), at) {
			if n := commits[random.Intn(len(commits))]; !slices.Contains(parents, n) {
				parents = append(parents, n)
			}
		}
		commits = append(commits, addNoted(t, g, []string{"", "a", "b", "c"}[random.Intn(4)], at/2, strconv.Itoa(random.Intn(2)), parents...))
	}
	return g, commits
}

// TestAgainstItsWords: P120 and P122, over graphs and names of any kind.
func TestAgainstItsWords(t *testing.T) {
	random := rand.New(rand.NewSource(12))
	swept := 0
	for range 2000 {
		g, commits := someGraph(t, random)
		r := refs.New()
		var tos []int
		for at := range random.Intn(8) {
			name := string(rune('a' + random.Intn(3)))
			old, there := r.Get(name)
			if there && random.Intn(3) == 0 {
				if err := r.Drop(name, old, at); err != nil {
					t.Fatal(err)
				}
				continue
			}
			if !there {
				old = -1
			}
			to := commits[random.Intn(len(commits))]
			if err := r.Set(name, old, to, at); err != nil {
				t.Fatal(err)
			}
			tos = append(tos, to)
		}
		live := livePlainly(g, tos)
		hasLive(t, g, r, live...)
		log := r.Renumbered(func(n int) int { return slices.Index(live, n) }).Text()
		sweeps(t, g, r, sweptPlainly(g, live), log)
		if len(live) < g.Pool().Len() && len(live) > 0 {
			swept++
		}
		if t.Failed() {
			t.Fatalf("%q", g.Pool().Text())
		}
	}
	if swept < 500 {
		t.Errorf("%d sweeps: too few to tell", swept)
	}
}
