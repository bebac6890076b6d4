package merge_test

import (
	"maps"
	"math/rand"
	"slices"
	"strings"
	"testing"

	"lammastide/api"
	"lammastide/book"
	"lammastide/event"
	"lammastide/merge"
)

// has a list's text an item?
func has(text, item string) bool {
	return item != "" && slices.Contains(strings.Split(text, ","), item)
}

// skipsPlainly: days of a or b that base has not, and those of base that both have.
func skipsPlainly(base, a, b string) string {
	list := []string{}
	for _, d := range strings.Split(base+","+a+","+b, ",") {
		if !has(base, d) && (has(a, d) || has(b, d)) || has(base, d) && has(a, d) && has(b, d) {
			list = append(list, d)
		}
	}
	slices.Sort(list)
	return strings.Join(slices.Compact(list), ",")
}

// toOf a From: empty, if there is none.
func toOf(text, from string) string {
	for _, m := range strings.Split(text, ",") {
		if f, to, _ := strings.Cut(m, ">"); f == from {
			return to
		}
	}
	return ""
}

func movesPlainly(base, a, b string) (string, bool) {
	found := map[string]string{}
	for _, m := range strings.Split(base+","+a+","+b, ",") {
		from, _, is := strings.Cut(m, ">")
		if !is {
			continue
		}
		inBase, inA, inB := toOf(base, from), toOf(a, from), toOf(b, from)
		if inA == inB || inB == inBase {
			found[from] = inA
		} else if inA == inBase {
			found[from] = inB
		} else {
			return "", false
		}
	}
	var list []string
	for _, from := range slices.Sorted(maps.Keys(found)) {
		if found[from] != "" {
			list = append(list, from+">"+found[from])
		}
	}
	return strings.Join(list, ","), true
}

// eventPlainly: P70 of one event, worked out on the texts of the three; empty: there is none.
func eventPlainly(base, a, b string) (string, []string) {
	switch {
	case a == b:
		return a, nil
	case a == base:
		return b, nil
	case b == base:
		return a, nil
	case base == "" || a == "" || b == "":
		return "", []string{"all"}
	}
	inBase, inA, inB := strings.Split(base, "|"), strings.Split(a, "|"), strings.Split(b, "|")
	var clashes []string
	parts := []string{inA[0]}
	for i, field := range event.Fields() {
		x, y, z := inBase[i+1], inA[i+1], inB[i+1]
		part, is := "", true
		switch {
		case y == z, z == x:
			part = y
		case y == x:
			part = z
		case field == "skips":
			part = skipsPlainly(x, y, z)
		case field == "moves":
			part, is = movesPlainly(x, y, z)
		default:
			is = false
		}
		if !is {
			clashes = append(clashes, field)
		}
		parts = append(parts, part)
	}
	return strings.Join(parts, "|"), clashes
}

// plainly: P70 of calendars, by the texts of their events.
func plainly(base, a, b map[string]string) (string, []merge.Clash) {
	all := map[string]int{}
	for _, m := range []map[string]string{base, a, b} {
		for id := range m {
			all[id]++
		}
	}
	lines, there := "", 0
	var clashes []merge.Clash
	for _, id := range slices.Sorted(maps.Keys(all)) {
		text, fields := eventPlainly(base[id], a[id], b[id])
		if _, err := event.Read(text); len(fields) == 0 && text != "" {
			if err != nil || there == api.MaxEvents {
				fields = []string{"all"}
			} else {
				lines, there = lines+text+"\n", there+1
			}
		}
		for _, field := range fields {
			clashes = append(clashes, merge.Clash{ID: id, Field: field})
		}
	}
	if len(clashes) > 0 {
		lines = ""
	}
	return lines, clashes
}

// someDays: some of a few, each in one of two forms if they are moved.
func someDays(r *rand.Rand, skips, moves *[]string) {
	for _, d := range []string{"2000-01-01", "2000-01-02", "2000-01-31", "2000-02-29", "2199-12-31"} {
		switch r.Intn(12) {
		case 0, 1, 2:
			*skips = append(*skips, d)
		case 3, 4:
			*moves = append(*moves, d+">2000-01-01")
		case 5, 6:
			*moves = append(*moves, d+">2000-01-02")
		}
	}
}

// someEvent: any field of few texts, so that two of them are often alike.
func someEvent(r *rand.Rand, id string) string {
	one := func(texts ...string) string { return texts[r.Intn(len(texts))] }
	var skips, moves []string
	someDays(r, &skips, &moves)
	return strings.Join([]string{id, one("", "x", "y"), one("2000-01-06", "2000-01-07", "2199-12-31"), one("1", "2", "60"), one("once", "daily 1", "weekly 2 mo,fr"), strings.Join(skips, ","), strings.Join(moves, ",")}, "|")
}

// changed: a well event, some of whose fields are those of another one.
func changed(r *rand.Rand, text string) string {
	for {
		parts := strings.Split(text, "|")
		other := strings.Split(someEvent(r, parts[0]), "|")
		for i := 1; i < len(parts); i++ {
			if r.Intn(3) == 0 {
				parts[i] = other[i]
			}
		}
		// Skips of the one and moves of the other one need not be well together.
		joined := strings.Join(parts, "|")
		if _, err := event.Read(joined); err == nil {
			return joined
		}
	}
}

// someThree: the texts of one ID's event in the three calendars; some are not there.
func someThree(r *rand.Rand, id string) [3]string {
	base := someEvent(r, id)
	three := [3]string{base, base, base}
	for i := 1; i < 3; i++ {
		if r.Intn(4) > 0 {
			three[i] = changed(r, base)
		}
	}
	if r.Intn(8) == 0 {
		three[2] = three[1]
	}
	if r.Intn(4) == 0 {
		three[r.Intn(3)] = ""
	}
	return three
}

// three calendars, as texts by IDs, and as books.
type three struct {
	texts [3]map[string]string
	books [3]*book.Book
}

func newThree() three {
	var c three
	for i := range c.texts {
		c.texts[i], c.books[i] = map[string]string{}, book.New()
	}
	return c
}

// put an event into one of them, if there is one.
func (c three) put(t *testing.T, i int, id, text string) {
	t.Helper()
	if text == "" {
		return
	}
	c.texts[i][id] = text
	if err := c.books[i].Put(read(t, text)); err != nil {
		t.Fatal(text, err)
	}
}

// held against P70's words: what it was to tell.
func (c three) held(t *testing.T) []merge.Clash {
	t.Helper()
	want, clashes := plainly(c.texts[0], c.texts[1], c.texts[2])
	if len(clashes) > 0 {
		clash(t, c.books[0], c.books[1], c.books[2], clashes...)
	} else {
		becomes(t, c.books[0], c.books[1], c.books[2], want)
	}
	return clashes
}

// TestAgainstItsWords: calendars of a few events, held against P70 worked out on texts.
func TestAgainstItsWords(t *testing.T) {
	r := rand.New(rand.NewSource(7))
	kinds := map[string]int{}
	for range 5000 {
		c := newThree()
		for _, id := range []string{"a", "b2", "b10"}[:1+r.Intn(3)] {
			for i, text := range someThree(r, id) {
				c.put(t, i, id, text)
			}
		}
		clashes := c.held(t)
		for _, one := range clashes {
			kinds[one.Field]++
		}
		if len(clashes) == 0 {
			kinds["well"]++
		}
	}
	for _, kind := range []string{"title", "start", "long", "rule", "moves", "all", "well"} {
		if kinds[kind] < 50 {
			t.Errorf("%s comes %d times: too few to tell", kind, kinds[kind])
		}
	}
	if kinds["skips"] > 0 {
		t.Error("skips never clash")
	}
}

// TestFullAgainstItsWords: calendars that together have about as many events as there may be.
func TestFullAgainstItsWords(t *testing.T) {
	r := rand.New(rand.NewSource(70))
	well := 0
	const rounds = 300
	for range rounds {
		c := newThree()
		for i := range api.MaxEvents + 12 {
			id := string(rune('a'+i%9)) + string(rune('0'+i/9))
			// A bit for each that has it; most often all three.
			sets := []int{7, 7, 7, 7, 7, 7, 6, 2, 4, 3, 5}
			set := sets[r.Intn(len(sets))]
			for k := range c.texts {
				if set>>k&1 == 1 && len(c.texts[k]) < api.MaxEvents {
					c.put(t, k, id, line(id))
				}
			}
		}
		if len(c.held(t)) == 0 {
			well++
		}
	}
	if well < 30 || well > rounds-30 {
		t.Errorf("%d of %d are well: too few of one kind to tell", well, rounds)
	}
}

// TestWithItself: P71's first half, over calendars of any kind; from whatever base, and where only one way was gone.
func TestWithItself(t *testing.T) {
	r := rand.New(rand.NewSource(71))
	books := []*book.Book{nil, book.New(), bookOf(t, fairText), many(t, "x", 0, 59), many(t, "a", 0, 59), many(t, "x", 30, 80)}
	for range 40 {
		books = append(books, bookOf(t, someEvent(r, "fair"), someEvent(r, "x07"), someEvent(r, "z")))
	}
	for _, base := range books {
		for _, a := range books {
			becomes(t, base, a, a, a.Text())
			becomes(t, base, base, a, a.Text())
			becomes(t, a, a, a, a.Text())
		}
	}
}
