package diff_test

import (
	"errors"
	"maps"
	"math/rand"
	"slices"
	"strings"
	"testing"

	"lammastide/api"
	"lammastide/book"
	"lammastide/diff"
	"lammastide/event"
)

// makes: Apply answers a book with just this text, and leaves the one that was given.
func makes(t *testing.T, a *book.Book, l []api.Change, want string) *book.Book {
	t.Helper()
	before, given := a.Text(), slices.Clone(l)
	b, err := diff.Apply(a, l)
	if err != nil || b == nil || b == a || b.Text() != want {
		t.Fatalf("%q: %v, %q; want %q", l, err, b.Text(), want)
	}
	if a.Text() != before || !slices.Equal(l, given) {
		t.Errorf("%q changes what is given", l)
	}
	return b
}

// refuses: Apply tells a fault at this change, and no book.
func refuses(t *testing.T, a *book.Book, l []api.Change, at int, want error) {
	t.Helper()
	before, given := a.Text(), slices.Clone(l)
	b, err := diff.Apply(a, l)
	fault, is := err.(*api.Fault)
	if b != nil || !is || fault.At != at || fault.Err != want || !errors.Is(err, want) {
		t.Errorf("%.200q: %v, %v; want %v at %d", l, b, err, want, at)
	}
	if a.Text() != before || !slices.Equal(l, given) {
		t.Errorf("%q changes what is given", l)
	}
}

// refusesOne change, alone and behind ones that are well, with others behind that are not.
func refusesOne(t *testing.T, a *book.Book, c api.Change, want error) {
	t.Helper()
	refuses(t, a, []api.Change{c}, 0, want)
	there := []api.Change{{ID: "c0", Field: "title", New: "x"}, {ID: "c0", Field: "title", Old: "x"}}
	refuses(t, a, append(there, c, api.Change{}, api.Change{ID: "none", Field: "long"}), 2, want)
}

func TestApplyNothing(t *testing.T) {
	a := three(t)
	want := a.Text()
	for _, l := range [][]api.Change{nil, {}} {
		b := makes(t, a, l, want)
		if err := b.Drop("fair"); err != nil || a.Text() != want {
			t.Error("an answer shares its events with what is given")
		}
		if err := makes(t, nil, l, "").Put(read(t, onceText)); err != nil {
			t.Error(err)
		}
	}
}

func TestApplyAll(t *testing.T) {
	add := api.Change{ID: "fair", Field: "all", New: fairText}
	drop := api.Change{ID: "fair", Field: "all", Old: fairText}
	a := bookOf(t, coldText, onceText)
	makes(t, a, []api.Change{add}, three(t).Text())
	makes(t, three(t), []api.Change{drop}, a.Text())
	makes(t, a, []api.Change{add, drop}, a.Text())
	makes(t, three(t), []api.Change{drop, add}, three(t).Text())
	makes(t, nil, []api.Change{add}, fairText+"\n")
	makes(t, book.New(), []api.Change{add, drop, {ID: "once", Field: "all", New: onceText}}, onceText+"\n")
	makes(t, bookOf(t, fairText), []api.Change{drop}, "")
	// In any order of the IDs, and with another event in the place of the first one.
	makes(t, a, []api.Change{{ID: "zz", Field: "all", New: line("zz")}, {ID: "c0", Field: "all", Old: coldText}, {ID: "c0", Field: "all", New: line("c0")}}, line("c0")+"\n"+onceText+"\n"+line("zz")+"\n")
}

func TestApplyFields(t *testing.T) {
	for _, c := range []struct{ field, old, new, want string }{
		{"title", "The Fair", "", "fair||2000-01-05|3|weekly 2 mo,we count 9|2000-01-17|2000-01-19>2000-01-20"},
		{"title", "The Fair", strings.Repeat("~", api.MaxTitle), "fair|" + strings.Repeat("~", api.MaxTitle) + "|2000-01-05|3|weekly 2 mo,we count 9|2000-01-17|2000-01-19>2000-01-20"},
		{"start", "2000-01-05", "2199-12-31", "fair|The Fair|2199-12-31|3|weekly 2 mo,we count 9|2000-01-17|2000-01-19>2000-01-20"},
		{"long", "3", "60", "fair|The Fair|2000-01-05|60|weekly 2 mo,we count 9|2000-01-17|2000-01-19>2000-01-20"},
		{"rule", "weekly 2 mo,we count 9", "once", "fair|The Fair|2000-01-05|3|once|2000-01-17|2000-01-19>2000-01-20"},
		{"skips", "2000-01-17", "", "fair|The Fair|2000-01-05|3|weekly 2 mo,we count 9||2000-01-19>2000-01-20"},
		{"skips", "2000-01-17", "2000-01-01,2000-01-20", "fair|The Fair|2000-01-05|3|weekly 2 mo,we count 9|2000-01-01,2000-01-20|2000-01-19>2000-01-20"},
		{"moves", "2000-01-19>2000-01-20", "2000-01-01>2000-01-17", "fair|The Fair|2000-01-05|3|weekly 2 mo,we count 9|2000-01-17|2000-01-01>2000-01-17"},
		{"moves", "2000-01-19>2000-01-20", "", "fair|The Fair|2000-01-05|3|weekly 2 mo,we count 9|2000-01-17|"},
		// Nothing says that Old and New are unlike.
		{"title", "The Fair", "The Fair", fairText}, {"long", "3", "3", fairText}, {"moves", "2000-01-19>2000-01-20", "2000-01-19>2000-01-20", fairText},
	} {
		a := three(t)
		change := api.Change{ID: "fair", Field: c.field, Old: c.old, New: c.new}
		makes(t, a, []api.Change{change}, coldText+"\n"+c.want+"\n"+onceText+"\n")
		makes(t, a, []api.Change{change, {ID: "fair", Field: c.field, Old: c.new, New: c.old}}, a.Text())
	}
	// A field in a full book, too: no event is new.
	b := makes(t, many(t, "x", api.MaxEvents), []api.Change{{ID: "x07", Field: "title", New: "seven"}}, strings.Replace(many(t, "x", api.MaxEvents).Text(), "x07||", "x07|seven|", 1))
	if len(b.IDs()) != api.MaxEvents {
		t.Error(b.IDs())
	}
}

// TestApplyGoesOn from what the changes ahead have made.
func TestApplyGoesOn(t *testing.T) {
	a := bookOf(t, onceText)
	makes(t, a, []api.Change{
		{ID: "once", Field: "title", Old: "Fair", New: "x"}, {ID: "p", Field: "all", New: line("p")}, {ID: "once", Field: "title", Old: "x", New: "y"},
		{ID: "p", Field: "long", Old: "1", New: "9"}, {ID: "once", Field: "all", Old: "once|y|2000-01-08|1|once||"}, {ID: "p", Field: "rule", Old: "once", New: "daily 1"},
	}, "p||2000-01-06|9|daily 1||\n")
	refuses(t, a, []api.Change{{ID: "once", Field: "title", Old: "Fair", New: "x"}, {ID: "once", Field: "title", Old: "Fair", New: "x"}}, 1, api.ErrStale)
	refuses(t, a, []api.Change{{ID: "once", Field: "title", Old: "Fair", New: "x"}, {ID: "once", Field: "all", Old: onceText}}, 1, api.ErrStale)
	refuses(t, a, []api.Change{{ID: "p", Field: "all", New: line("p")}, {ID: "p", Field: "all", New: line("p")}}, 1, api.ErrExist)
	refuses(t, a, []api.Change{{ID: "once", Field: "all", Old: onceText}, {ID: "once", Field: "all", Old: onceText}}, 1, api.ErrNone)
	refuses(t, a, []api.Change{{ID: "once", Field: "all", Old: onceText}, {ID: "once", Field: "title", Old: "Fair", New: "x"}}, 1, api.ErrNone)
}

func TestApplyRefusesFields(t *testing.T) {
	a := three(t)
	for _, field := range []string{"", "id", "ID", "All", "all ", " all", "Title", "titles", "titl", "event", "\xff", "title|start"} {
		refusesOne(t, a, api.Change{ID: "fair", Field: field}, api.ErrName)
		refusesOne(t, a, api.Change{ID: "none", Field: field, Old: "x", New: "y"}, api.ErrName)
		refusesOne(t, a, api.Change{ID: "none", Field: field, New: line("none")}, api.ErrName)
	}
}

func TestApplyRefusesAShape(t *testing.T) {
	a := three(t)
	for _, id := range []string{"fair", "none", "", "|"} {
		refusesOne(t, a, api.Change{ID: id, Field: "all"}, api.ErrShape)
		refusesOne(t, a, api.Change{ID: id, Field: "all", Old: "x", New: "y"}, api.ErrShape)
		refusesOne(t, a, api.Change{ID: id, Field: "all", Old: fairText, New: fairText}, api.ErrShape)
	}
	refuses(t, nil, []api.Change{{Field: "all"}}, 0, api.ErrShape)
}

func TestApplyRefusesNew(t *testing.T) {
	a := three(t)
	for _, c := range []struct {
		id, text string
		want     error
	}{
		{"fair", fairText, api.ErrExist}, {"fair", "x", api.ErrExist}, {"fair", line("p"), api.ErrExist}, {"fair", " ", api.ErrExist},
		{"p", "x", api.ErrText}, {"p", " ", api.ErrText}, {"p", "p||2000-01-06|1|once|", api.ErrText}, {"p", line("p") + "\n", api.ErrText}, {"q", "p|\x7f|2000-01-06|1|once||", api.ErrText},
		{"P", line("P"), api.ErrName}, {"", line(""), api.ErrName}, {"", " ", api.ErrText}, {"thirteenchars", line("thirteenchars"), api.ErrName},
		{"p", "p||2000-02-30|1|once||", api.ErrBound}, {"p", "p||2000-01-06|61|once||", api.ErrBound}, {"q", "p||2000-01-06|0|once||", api.ErrBound},
		{"p", "p||2000-01-06|1|daily 1 mo||", api.ErrShape}, {"p", "p||2000-01-06|1|once|2000-01-02,2000-01-01|", api.ErrOrder},
		{"p", "p||2000-01-06|1|once|" + strings.Repeat("2000-01-01,", api.MaxSkips) + "2000-01-01|", api.ErrFull}, {"p", "p||2000-01-06|1|once|2000-01-01|2000-01-01>2000-01-02", api.ErrExist},
		{"p", line("q"), api.ErrName}, {"p", line("pp"), api.ErrName}, {"pp", line("p"), api.ErrName}, {"p", fairText, api.ErrName}, {"", line("p"), api.ErrName}, {"P", line("p"), api.ErrName}, {"p ", line("p"), api.ErrName},
	} {
		refusesOne(t, a, api.Change{ID: c.id, Field: "all", New: c.text}, c.want)
	}
}

func TestApplyToAFullBook(t *testing.T) {
	a := many(t, "x", api.MaxEvents)
	add := api.Change{ID: "p", Field: "all", New: line("p")}
	refuses(t, a, []api.Change{add}, 0, api.ErrFull)
	refuses(t, many(t, "x", api.MaxEvents-1), []api.Change{add, {ID: "q", Field: "all", New: line("q")}}, 1, api.ErrFull)
	// What else is wrong comes ahead.
	refuses(t, a, []api.Change{{ID: "p", Field: "all", New: "x"}}, 0, api.ErrText)
	refuses(t, a, []api.Change{{ID: "p", Field: "all", New: line("q")}}, 0, api.ErrName)
	refuses(t, a, []api.Change{{ID: "x00", Field: "all", New: line("x00")}}, 0, api.ErrExist)
	drop := api.Change{ID: "x00", Field: "all", Old: line("x00")}
	b := makes(t, a, []api.Change{drop, add}, line("p")+"\n"+strings.TrimPrefix(a.Text(), line("x00")+"\n"))
	if len(b.IDs()) != api.MaxEvents {
		t.Error(b.IDs())
	}
	refuses(t, a, []api.Change{add, drop}, 0, api.ErrFull)
	refuses(t, a, []api.Change{drop, add, {ID: "x00", Field: "all", New: line("x00")}}, 2, api.ErrFull)
}

func TestApplyRefusesOld(t *testing.T) {
	a := three(t)
	for _, id := range []string{"", "p", "fai", "fairs", "Fair", "fair ", "\xff"} {
		refusesOne(t, a, api.Change{ID: id, Field: "all", Old: fairText}, api.ErrNone)
		refusesOne(t, a, api.Change{ID: id, Field: "all", Old: "x"}, api.ErrNone)
	}
	for _, old := range []string{"x", " ", fairText + " ", fairText + "\n", fairText[:len(fairText)-1], onceText, strings.ToUpper(fairText)} {
		refusesOne(t, a, api.Change{ID: "fair", Field: "all", Old: old}, api.ErrStale)
	}
	refuses(t, nil, []api.Change{{ID: "fair", Field: "all", Old: fairText}}, 0, api.ErrNone)
}

func TestApplyRefusesFieldsOfNoEvent(t *testing.T) {
	a := three(t)
	for _, field := range event.Fields() {
		for _, id := range []string{"", "p", "fai", "Fair", "fair "} {
			refusesOne(t, a, api.Change{ID: id, Field: field}, api.ErrNone)
			refusesOne(t, a, api.Change{ID: id, Field: field, Old: "x", New: "|"}, api.ErrNone)
		}
		refuses(t, nil, []api.Change{{ID: "fair", Field: field}}, 0, api.ErrNone)
	}
}

func TestApplyRefusesStaleFields(t *testing.T) {
	a := three(t)
	e, _ := a.Get("fair")
	for _, field := range event.Fields() {
		is := event.Get(e, field)
		for _, old := range []string{"", "x", is + " ", " " + is, is[:len(is)-1], "0" + is} {
			// Ahead of what is wrong with New, and also where New is what is there.
			refusesOne(t, a, api.Change{ID: "fair", Field: field, Old: old, New: "|"}, api.ErrStale)
			refusesOne(t, a, api.Change{ID: "fair", Field: field, Old: old, New: is}, api.ErrStale)
		}
	}
}

func TestApplyRefusesToSet(t *testing.T) {
	a := three(t)
	e, _ := a.Get("fair")
	for _, c := range []struct {
		field, text string
		want        error
	}{
		{"title", "|", api.ErrText}, {"title", "\n", api.ErrText}, {"title", strings.Repeat("x", api.MaxTitle+1), api.ErrText},
		{"start", "", api.ErrText}, {"start", "2000-1-1", api.ErrText}, {"start", "2000-02-30", api.ErrBound}, {"start", "2200-01-01", api.ErrBound},
		{"long", "", api.ErrText}, {"long", "03", api.ErrText}, {"long", "0", api.ErrBound}, {"long", "61", api.ErrBound}, {"long", "-1", api.ErrBound}, {"long", "1000000000", api.ErrText},
		{"rule", "", api.ErrText}, {"rule", "hourly 1", api.ErrText}, {"rule", "daily 0", api.ErrBound}, {"rule", "daily 1 mo", api.ErrShape}, {"rule", "weekly 1 tu,mo", api.ErrOrder},
		{"skips", ",", api.ErrText}, {"skips", "2000-02-30", api.ErrBound}, {"skips", "2000-01-02,2000-01-02", api.ErrOrder}, {"skips", "2000-01-19", api.ErrExist}, {"skips", strings.Repeat("2000-01-01,", api.MaxSkips) + "2000-01-01", api.ErrFull},
		{"moves", "2000-01-01", api.ErrText}, {"moves", "2000-01-01>2000-02-30", api.ErrBound}, {"moves", "2000-01-02>2000-01-01,2000-01-01>2000-01-01", api.ErrOrder}, {"moves", "2000-01-17>2000-01-18", api.ErrExist},
	} {
		refusesOne(t, a, api.Change{ID: "fair", Field: c.field, Old: event.Get(e, c.field), New: c.text}, c.want)
	}
}

// TestApplyTellsTheFirst, though one behind it is worse.
func TestApplyTellsTheFirst(t *testing.T) {
	a := three(t)
	stale := api.Change{ID: "fair", Field: "title", Old: "x"}
	none := api.Change{ID: "p", Field: "title"}
	name := api.Change{ID: "fair", Field: "id"}
	refuses(t, a, []api.Change{stale, none, name}, 0, api.ErrStale)
	refuses(t, a, []api.Change{none, name, stale}, 0, api.ErrNone)
	ok := api.Change{ID: "once", Field: "long", Old: "1", New: "1"}
	refuses(t, a, []api.Change{ok, ok, ok, name, stale}, 3, api.ErrName)
}

// TestApplyReadsNoFurther than the list is long.
func TestApplyReadsNoFurther(t *testing.T) {
	l := []api.Change{{ID: "once", Field: "long", Old: "1", New: "2"}, {ID: "once", Field: "no field"}}
	makes(t, bookOf(t, onceText), l[:1], "once|Fair|2000-01-08|2|once||\n")
	if l[1].Field != "no field" {
		t.Error(l)
	}
}

// TestApplyIsAnother: what is done to one of the two books later shows in the other one not.
func TestApplyIsAnother(t *testing.T) {
	a := three(t)
	b := makes(t, a, []api.Change{{ID: "once", Field: "title", Old: "Fair", New: "x"}}, coldText+"\n"+fairText+"\nonce|x|2000-01-08|1|once||\n")
	before, after := a.Text(), b.Text()
	e, _ := b.Get("fair")
	e.Rule.Days[0], e.Skips[0], e.Moves[0].To = 1, 1, 1
	if a.Text() != before || b.Text() != after {
		t.Error("an event's lists are shared")
	}
	if a.Drop("fair") != nil || b.Text() != after {
		t.Error(b.Text())
	}
	before = a.Text()
	if b.Drop("c0") != nil || a.Text() != before {
		t.Error(a.Text())
	}
}

// plainly: P61 of one change, in the order of its words, on a map of texts.
func plainly(texts map[string]string, c api.Change) error {
	text, is := texts[c.ID]
	isField := slices.Contains(event.Fields(), c.Field)
	old, _ := event.Read(text)
	put, readErr := event.Read(c.New)
	set, setErr := event.Set(old, c.Field, c.New)
	for _, s := range []struct {
		so  bool
		err error
	}{
		{c.Field != "all" && !isField, api.ErrName},
		{!isField && (c.Old == "" && c.New == "" || c.Old != "" && c.New != ""), api.ErrShape},
		{!isField && c.New != "" && is, api.ErrExist},
		{!isField && c.New != "" && readErr != nil, readErr},
		{!isField && c.New != "" && put.ID != c.ID, api.ErrName},
		{!isField && c.New != "" && len(texts) == api.MaxEvents, api.ErrFull},
		{(isField || c.New == "") && !is, api.ErrNone},
		{!isField && c.New == "" && text != c.Old, api.ErrStale},
		{isField && event.Get(old, c.Field) != c.Old, api.ErrStale},
		{isField && setErr != nil, setErr},
	} {
		if s.so {
			return s.err
		}
	}
	switch {
	case isField:
		texts[c.ID] = event.Text(set)
	case c.New != "":
		texts[c.ID] = c.New
	default:
		delete(texts, c.ID)
	}
	return nil
}

// someChange, well more often than not, of a book with these texts.
func someChange(r *rand.Rand, texts map[string]string) api.Change {
	one := func(l ...string) string { return l[r.Intn(len(l))] }
	rarely := func() bool { return r.Intn(40) == 0 }
	ids := append(slices.Sorted(maps.Keys(texts)), "p", "q")
	c := api.Change{ID: one(append(ids[:min(3, len(ids))], "p", "x00")...), Field: one("title", "start", "long", "rule", "skips", "moves", "all", "all")}
	text, is := texts[c.ID]
	if !is && !rarely() {
		return api.Change{ID: c.ID, Field: "all", New: line(c.ID)}
	}
	if e, err := event.Read(text); err == nil && !rarely() {
		c.Old = event.Get(e, c.Field)
		if c.Field == "all" {
			c.Old = text
		}
	}
	news := map[string][2]string{"title": {"x", "|"}, "start": {"2000-01-07", "2000-02-30"}, "long": {"60", "0"}, "rule": {"daily 1", "x"}, "skips": {"2000-01-06", "2000-01-07,"}, "moves": {"2000-01-06>2000-01-07", "2000-01-06"}, "all": {"", line("q")}}
	olds := map[string]string{"start": "2000-01-06", "long": "1", "rule": "once"}
	c.New = one(news[c.Field][0], olds[c.Field])
	if rarely() {
		c.New = news[c.Field][1]
	}
	if rarely() {
		c.Field = one("id", "", "all")
	}
	return c
}

// TestApplyAgainstItsWords: lists of changes, held against P61 worked out on texts.
func TestApplyAgainstItsWords(t *testing.T) {
	r := rand.New(rand.NewSource(6))
	kinds := map[error]int{}
	for round := range 3000 {
		a := many(t, "x", []int{0, 1, 2, 59, 60}[round%5])
		texts := map[string]string{}
		for _, id := range a.IDs() {
			texts[id] = line(id)
		}
		var l []api.Change
		var want error
		for want == nil && len(l) < 10 {
			l = append(l, someChange(r, texts))
			want = plainly(texts, l[len(l)-1])
		}
		kinds[want]++
		if want != nil {
			refuses(t, a, append(l, someChange(r, texts)), len(l)-1, want)
			continue
		}
		var lines string
		for _, id := range slices.Sorted(maps.Keys(texts)) {
			lines += texts[id] + "\n"
		}
		makes(t, a, l, lines)
	}
	for _, kind := range []error{nil, api.ErrText, api.ErrBound, api.ErrShape, api.ErrName, api.ErrNone, api.ErrExist, api.ErrFull, api.ErrStale} {
		if kinds[kind] < 20 {
			t.Errorf("%v comes %d times: too few to tell", kind, kinds[kind])
		}
	}
}
