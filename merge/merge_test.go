package merge_test

import (
	"fmt"
	"slices"
	"strings"
	"testing"

	"lammastide/api"
	"lammastide/book"
	"lammastide/event"
	"lammastide/merge"
)

// fairText has something in every field.
const fairText = "fair|The Fair|2000-01-05|3|weekly 2 mo,we count 9|2000-01-17|2000-01-19>2000-01-20"

func read(t *testing.T, s string) api.Event {
	t.Helper()
	e, err := event.Read(s)
	if err != nil {
		t.Fatal(s, err)
	}
	return e
}

// bookOf events, put in the order in which they stand.
func bookOf(t *testing.T, texts ...string) *book.Book {
	t.Helper()
	b := book.New()
	for _, s := range texts {
		if err := b.Put(read(t, s)); err != nil {
			t.Fatal(s, err)
		}
	}
	return b
}

func line(id string) string { return id + "||2000-01-06|1|once||" }

// many events: from the first number up to the last one, whose IDs begin with this.
func many(t *testing.T, head string, first, last int) *book.Book {
	t.Helper()
	b := book.New()
	for i := first; i <= last; i++ {
		if err := b.Put(read(t, line(fmt.Sprintf("%s%02d", head, i)))); err != nil {
			t.Fatal(i, err)
		}
	}
	return b
}

// with: the fair, one of its fields another one.
func with(t *testing.T, field, text string) string {
	t.Helper()
	e, err := event.Set(read(t, fairText), field, text)
	if err != nil {
		t.Fatal(field, text, err)
	}
	return event.Text(e)
}

// asked both ways round: what Three answers; that a and b may change places, and that nothing is changed, is asked here for all tests.
func asked(t *testing.T, base, a, b *book.Book) (*book.Book, []merge.Clash) {
	t.Helper()
	before := []string{base.Text(), a.Text(), b.Text()}
	joined, clashes := merge.Three(base, a, b)
	other, others := merge.Three(base, b, a)
	if (joined == nil) != (other == nil) || !book.Same(joined, other) || !slices.Equal(clashes, others) {
		t.Errorf("%.300q: %.300q, %v; changed over: %.300q, %v", before, joined.Text(), clashes, other.Text(), others)
	}
	if (joined == nil) != (len(clashes) > 0) {
		t.Errorf("%.300q: %v beside %v", before, joined, clashes)
	}
	if !slices.Equal(before, []string{base.Text(), a.Text(), b.Text()}) {
		t.Errorf("%.300q is changed", before)
	}
	return joined, clashes
}

// becomes: Three answers a calendar with just this text.
func becomes(t *testing.T, base, a, b *book.Book, want string) {
	t.Helper()
	if joined, clashes := asked(t, base, a, b); joined == nil || joined.Text() != want {
		t.Errorf("%q, %v; want %q", joined.Text(), clashes, want)
	}
}

// clash: Three answers no calendar, and just these clashes.
func clash(t *testing.T, base, a, b *book.Book, want ...merge.Clash) {
	t.Helper()
	if joined, clashes := asked(t, base, a, b); joined != nil || !slices.Equal(clashes, want) {
		t.Errorf("%q, %v; want %v", joined.Text(), clashes, want)
	}
}

// TestWholeEvents: each of the three has the fair as it is, with another title, or not at all.
func TestWholeEvents(t *testing.T) {
	x, y, z := fairText, with(t, "title", "y"), with(t, "title", "z")
	const none, all, title = "", "all", "title"
	for _, c := range []struct{ base, a, b, want string }{
		{none, none, none, none}, {x, x, x, x}, {x, none, none, none}, {none, x, x, x}, {x, y, y, y},
		{none, none, x, x}, {x, x, none, none}, {x, x, y, y},
		{none, x, y, all}, {x, none, y, all}, {x, y, z, title},
	} {
		var books []*book.Book
		for _, s := range []string{c.base, c.a, c.b} {
			books = append(books, book.New())
			if s != none {
				books[len(books)-1] = bookOf(t, s)
			}
		}
		switch c.want {
		case all, title:
			clash(t, books[0], books[1], books[2], merge.Clash{ID: "fair", Field: c.want})
		case none:
			becomes(t, books[0], books[1], books[2], "")
		default:
			becomes(t, books[0], books[1], books[2], c.want+"\n")
		}
	}
}

// TestToldWhole: what one way or base has none of clashes as a whole, also where its fields could be joined.
func TestToldWhole(t *testing.T) {
	a, b := bookOf(t, with(t, "skips", "")), bookOf(t, with(t, "skips", "2000-01-03"))
	clash(t, nil, a, b, merge.Clash{ID: "fair", Field: "all"})
	clash(t, book.New(), a, b, merge.Clash{ID: "fair", Field: "all"})
	clash(t, bookOf(t, fairText), a, nil, merge.Clash{ID: "fair", Field: "all"})
	clash(t, bookOf(t, fairText), book.New(), b, merge.Clash{ID: "fair", Field: "all"})
	becomes(t, bookOf(t, fairText), a, b, with(t, "skips", "2000-01-03")+"\n")
}

// others: of each field another text, and one more.
var others = []struct{ field, one, two string }{
	{"title", "", "the fair"},
	{"start", "2000-01-01", "2199-12-31"},
	{"long", "1", "60"},
	{"rule", "once", "weekly 2 mo,we count 8"},
	{"skips", "", "2000-01-01,2000-01-17"},
	{"moves", "", "2000-01-01>2000-01-02,2000-01-19>2000-01-20"},
}

func TestFieldByField(t *testing.T) {
	base := bookOf(t, fairText)
	for i, one := range others {
		a, b := bookOf(t, with(t, one.field, one.one)), bookOf(t, with(t, one.field, one.two))
		becomes(t, base, a, base, a.Text())
		becomes(t, base, b, base, b.Text())
		becomes(t, base, a, a.Copy(), a.Text())
		if one.field != "skips" && one.field != "moves" {
			clash(t, base, a, b, merge.Clash{ID: "fair", Field: one.field})
		}
		for _, two := range others[i+1:] {
			// One field on each way; and on one of them the other one's, too.
			both, err := event.Set(read(t, with(t, one.field, one.one)), two.field, two.two)
			if err != nil {
				t.Fatal(err)
			}
			want := event.Text(both) + "\n"
			becomes(t, base, a, bookOf(t, with(t, two.field, two.two)), want)
			becomes(t, base, bookOf(t, event.Text(both)), a, want)
			becomes(t, base, bookOf(t, event.Text(both)), bookOf(t, with(t, two.field, two.two)), want)
		}
	}
}

// TestFieldsClashInOrder: each field that clashes, in the order of event.Fields, and none beside.
func TestFieldsClashInOrder(t *testing.T) {
	base := "p||2000-01-01|1|once||2000-01-03>2000-01-04"
	a := "p|a|2000-01-02|2|daily 1|2000-01-05|2000-01-03>2000-01-05"
	b := "p|b|2000-01-03|3|daily 2|2000-01-06|2000-01-03>2000-01-06"
	var want []merge.Clash
	for _, field := range []string{"title", "start", "long", "rule", "moves"} {
		want = append(want, merge.Clash{ID: "p", Field: field})
	}
	clash(t, bookOf(t, base), bookOf(t, a), bookOf(t, b), want...)
	// Also where it would not be well: then no whole one is told beside.
	a = "p|a|2000-01-01|1|once|2000-01-09|2000-01-03>2000-01-04"
	b = "p|b|2000-01-01|1|once||2000-01-03>2000-01-04,2000-01-09>2000-01-10"
	clash(t, bookOf(t, base), bookOf(t, a), bookOf(t, b), merge.Clash{ID: "p", Field: "title"})
	becomes(t, bookOf(t, base), bookOf(t, strings.Replace(a, "2000-01-09", "", 1)), bookOf(t, strings.Replace(b, "p|b", "p|", 1)), "p|a|2000-01-01|1|once||2000-01-03>2000-01-04,2000-01-09>2000-01-10\n")
}

// lists: an event with these skips and moves, a digit a day, a pair a move.
func lists(skips, moves string) string {
	var days, pairs []string
	for _, d := range skips {
		days = append(days, "2000-01-0"+string(d))
	}
	for _, m := range strings.Fields(moves) {
		pairs = append(pairs, "2000-01-0"+m[:1]+">2000-01-0"+m[1:])
	}
	return "p||2000-01-01|1|daily 1|" + strings.Join(days, ",") + "|" + strings.Join(pairs, ",")
}

func TestSkips(t *testing.T) {
	for _, c := range []struct{ base, a, b, want string }{
		{"", "1", "2", "12"}, {"", "12", "23", "123"}, {"", "9", "1", "19"}, {"", "159", "2468", "1245689"},
		{"5", "", "56", "6"}, {"5", "45", "56", "456"}, {"5", "4", "6", "46"}, {"5", "4", "56", "46"},
		{"12", "1", "2", ""}, {"123", "12", "23", "2"}, {"123", "1", "3", ""}, {"123", "", "3", ""},
		{"13", "123", "3", "23"}, {"13", "12", "23", "2"}, {"13", "24", "245", "245"}, {"12345", "1345", "123459", "13459"},
	} {
		becomes(t, bookOf(t, lists(c.base, "")), bookOf(t, lists(c.a, "")), bookOf(t, lists(c.b, "")), lists(c.want, "")+"\n")
	}
	first, last := "p||2000-01-01|1|daily 1|2000-01-01|\n", "p||2000-01-01|1|daily 1|2199-12-31|\n"
	becomes(t, bookOf(t, lists("", "")), bookOf(t, strings.TrimSpace(first)), bookOf(t, strings.TrimSpace(last)), "p||2000-01-01|1|daily 1|2000-01-01,2199-12-31|\n")
}

func TestMoves(t *testing.T) {
	const clashes = "clashes"
	for _, c := range []struct{ base, a, b, want string }{
		// What is new on one way, on both alike, on both not alike.
		{"", "12", "34", "12 34"}, {"", "34 91", "12", "12 34 91"}, {"", "12 34", "12 56", "12 34 56"}, {"", "12", "13", clashes}, {"", "12 45", "12 46", clashes},
		// What base has: dropped, changed, left.
		{"12", "", "12 34", "34"}, {"12", "13", "12 34", "13 34"}, {"12", "13 34", "13 56", "13 34 56"}, {"12", "34", "56", "34 56"}, {"12", "34", "12 56", "34 56"},
		{"12", "", "13", clashes}, {"12", "13", "14", clashes}, {"12", "13 34", "56", clashes},
		{"12 34", "12", "34", ""}, {"12 34", "12 35", "14 34", "14 35"}, {"12 34", "12", "14 34", "14"}, {"12 34", "35", "12 36", clashes}, {"12 34 56", "12 56", "34 57", "57"}, {"12 34 56", "13 34 56", "12 35 56", "13 35 56"},
		// A day may go where it is, two to one place, and one where another one goes away.
		{"", "11", "22", "11 22"}, {"", "13", "23", "13 23"}, {"", "12", "21", "12 21"}, {"11", "", "12", clashes}, {"11", "12", "11 22", "12 22"},
	} {
		base, a, b := bookOf(t, lists("", c.base)), bookOf(t, lists("", c.a)), bookOf(t, lists("", c.b))
		if c.want == clashes {
			clash(t, base, a, b, merge.Clash{ID: "p", Field: "moves"})
		} else {
			becomes(t, base, a, b, lists("", c.want)+"\n")
		}
	}
}

// TestMovesClashOnce: also where they do so for several days.
func TestMovesClashOnce(t *testing.T) {
	clash(t, bookOf(t, lists("", "12 34")), bookOf(t, lists("", "13 35 56")), bookOf(t, lists("", "14 36 57")), merge.Clash{ID: "p", Field: "moves"})
}

// TestTheFirstDayMoved to itself is 0 and 0, and not the same as no move.
func TestTheFirstDayMoved(t *testing.T) {
	no, zero, one, far := lists("", ""), lists("", "11"), lists("", "12"), lists("", "99")
	becomes(t, bookOf(t, no), bookOf(t, zero), bookOf(t, far), lists("", "11 99")+"\n")
	becomes(t, bookOf(t, zero), bookOf(t, no), bookOf(t, lists("", "11 99")), far+"\n")
	clash(t, bookOf(t, zero), bookOf(t, no), bookOf(t, one), merge.Clash{ID: "p", Field: "moves"})
	clash(t, bookOf(t, no), bookOf(t, zero), bookOf(t, one), merge.Clash{ID: "p", Field: "moves"})
	last := "p||2000-01-01|1|daily 1||2199-12-31>2199-12-31"
	becomes(t, bookOf(t, no), bookOf(t, zero), bookOf(t, last), "p||2000-01-01|1|daily 1||2000-01-01>2000-01-01,2199-12-31>2199-12-31\n")
}

// TestNotWell: fields that do not clash, of an event that is not well.
func TestNotWell(t *testing.T) {
	all := merge.Clash{ID: "p", Field: "all"}
	// One way skips what the other one moves.
	clash(t, bookOf(t, lists("", "")), bookOf(t, lists("5", "")), bookOf(t, lists("", "56")), all)
	clash(t, bookOf(t, lists("1", "23")), bookOf(t, lists("15", "23")), bookOf(t, lists("1", "23 56")), all)
	clash(t, bookOf(t, lists("1", "23")), bookOf(t, lists("15", "34")), bookOf(t, lists("16", "23 56")), all)
	// Skipped where the other one goes is well.
	becomes(t, bookOf(t, lists("", "")), bookOf(t, lists("5", "")), bookOf(t, lists("", "65")), lists("5", "65")+"\n")
}

// TestWellOnlyAsAWhole: what is joined need not be well field by field on the way.
func TestWellOnlyAsAWhole(t *testing.T) {
	moved, skipped := lists("", "56"), lists("5", "")
	longer := func(s string) string { return strings.Replace(s, "|1|", "|2|", 1) }
	becomes(t, bookOf(t, moved), bookOf(t, skipped), bookOf(t, longer(moved)), longer(skipped)+"\n")
	becomes(t, bookOf(t, skipped), bookOf(t, moved), bookOf(t, longer(skipped)), longer(moved)+"\n")
	becomes(t, bookOf(t, lists("", "56 78")), bookOf(t, lists("5", "78")), bookOf(t, lists("", "56 79")), lists("5", "79")+"\n")
	becomes(t, bookOf(t, lists("5", "78")), bookOf(t, lists("", "56 78")), bookOf(t, lists("45", "79")), lists("4", "56 79")+"\n")
	// Both make of a move a skip, and more.
	becomes(t, bookOf(t, moved), bookOf(t, lists("45", "")), bookOf(t, lists("59", "")), lists("459", "")+"\n")
}

// span: days of January, from the first number to the last one; of moves each goes to March.
func span(first, last int, isMoves bool) string {
	var days []string
	for d := first; d <= last; d++ {
		days = append(days, fmt.Sprintf("2000-01-%02d", d))
		if isMoves {
			days[len(days)-1] += fmt.Sprintf(">2000-03-%02d", d)
		}
	}
	return strings.Join(days, ",")
}

// TestTooManyDays: lists that are well on both ways, and too long together.
func TestTooManyDays(t *testing.T) {
	for _, isMoves := range []bool{false, true} {
		of := func(first, last int) string {
			if isMoves {
				return "p||2000-01-01|1|daily 1||" + span(first, last, true)
			}
			return "p||2000-01-01|1|daily 1|" + span(first, last, false) + "|"
		}
		all := merge.Clash{ID: "p", Field: "all"}
		none := "p||2000-01-01|1|daily 1||"
		becomes(t, bookOf(t, none), bookOf(t, of(1, 10)), bookOf(t, of(11, 20)), of(1, 20)+"\n")
		becomes(t, bookOf(t, none), bookOf(t, of(1, 15)), bookOf(t, of(6, 20)), of(1, 20)+"\n")
		becomes(t, bookOf(t, of(11, 30)), bookOf(t, of(1, 10)), bookOf(t, of(21, 30)), of(1, 10)+"\n")
		clash(t, bookOf(t, none), bookOf(t, of(1, 10)), bookOf(t, of(11, 21)), all)
		clash(t, bookOf(t, none), bookOf(t, of(1, 20)), bookOf(t, of(2, 21)), all)
		clash(t, bookOf(t, of(15, 20)), bookOf(t, of(1, 20)), bookOf(t, of(15, 31)), all)
	}
}

// TestClashesRise by the bytes of the IDs, and with clashes there is no calendar, though other events are well.
func TestClashesRise(t *testing.T) {
	ids := []string{"0", "00", "1", "10", "2", "9", "a", "a0", "aa", "b", "z", "zz"}
	for turn := range ids {
		base, a, b := book.New(), book.New(), book.New()
		var want []merge.Clash
		for i := range ids {
			at := (turn + i*5) % len(ids)
			e := read(t, line(ids[at]))
			if (turn+at)%3 > 0 {
				base.Put(e)
			}
			e.Title = "a"
			a.Put(e)
			if e.Title = "b"; (turn+at)%3 == 2 {
				e.Title = ""
			}
			b.Put(e)
		}
		for at, id := range ids {
			switch (turn + at) % 3 {
			case 0:
				want = append(want, merge.Clash{ID: id, Field: "all"})
			case 1:
				want = append(want, merge.Clash{ID: id, Field: "title"})
			}
		}
		clash(t, base, a, b, want...)
	}
}

func TestManyEvents(t *testing.T) {
	base := bookOf(t, line("c"), line("d"), line("e"), fairText, line("g"))
	a := bookOf(t, line("a"), "c|a|2000-01-06|1|once||", line("d"), fairText, line("g"), line("z"))
	b := bookOf(t, line("b"), "c||2000-01-06|2|once||", line("e"), with(t, "title", "b"), line("z"))
	becomes(t, base, a, b, line("a")+"\n"+line("b")+"\nc|a|2000-01-06|2|once||\n"+with(t, "title", "b")+"\n"+line("z")+"\n")
}

// joinedOf books: all their events.
func joinedOf(t *testing.T, books ...*book.Book) *book.Book {
	t.Helper()
	all := book.New()
	for _, b := range books {
		for _, id := range b.IDs() {
			if e, _ := b.Get(id); all.Put(e) != nil {
				t.Fatal(id)
			}
		}
	}
	return all
}

func whole(ids ...string) []merge.Clash {
	var list []merge.Clash
	for _, id := range ids {
		list = append(list, merge.Clash{ID: id, Field: "all"})
	}
	return list
}

// TestMaxEvents: the last of the IDs are those that are too many, whosever they are.
func TestMaxEvents(t *testing.T) {
	becomes(t, nil, many(t, "x", 0, 29), many(t, "x", 30, 59), many(t, "x", 0, 59).Text())
	becomes(t, nil, many(t, "x", 0, 59), many(t, "x", 10, 49), many(t, "x", 0, 59).Text())
	clash(t, nil, many(t, "x", 0, 29), many(t, "x", 30, 60), whole("x60")...)
	clash(t, nil, many(t, "x", 0, 2), many(t, "x", 2, 61), whole("x60", "x61")...)
	clash(t, nil, many(t, "x", 0, 59), many(t, "a", 1, 2), whole("x58", "x59")...)
	// Also of events that all three have, or that are joined field by field.
	old := bookOf(t, line("y"), fairText)
	a := joinedOf(t, bookOf(t, line("y"), with(t, "title", "a")), many(t, "a", 0, 29))
	b := joinedOf(t, bookOf(t, line("y"), with(t, "long", "9")), many(t, "b", 0, 29))
	clash(t, old, a, b, whole("fair", "y")...)
	// One that is dropped makes room, also where it stands behind.
	becomes(t, many(t, "x", 0, 59), many(t, "x", 0, 58), joinedOf(t, many(t, "x", 0, 59)), many(t, "x", 0, 58).Text())
	becomes(t, many(t, "x", 0, 59), many(t, "x", 0, 57), joinedOf(t, many(t, "a", 1, 1), many(t, "x", 0, 58)), joinedOf(t, many(t, "a", 1, 1), many(t, "x", 0, 57)).Text())
	becomes(t, many(t, "x", 0, 59), many(t, "y", 0, 59), many(t, "x", 0, 59), many(t, "y", 0, 59).Text())
}

// TestClashesTakeNoRoom: an event that clashes is not there.
func TestClashesTakeNoRoom(t *testing.T) {
	a := joinedOf(t, bookOf(t, "a|a|2000-01-06|1|once||"), many(t, "x", 0, 29))
	b := joinedOf(t, bookOf(t, "a|b|2000-01-06|1|once||"), many(t, "x", 30, 59))
	clash(t, nil, a, b, whole("a")...)
	clash(t, bookOf(t, line("a")), a, b, merge.Clash{ID: "a", Field: "title"})
	// And beyond the last one that has room, fields that clash are told as fields.
	a = joinedOf(t, bookOf(t, "z|a|2000-01-06|1|once||"), many(t, "x", 0, 29))
	b = joinedOf(t, bookOf(t, "z|b|2000-01-06|1|once||", line("y")), many(t, "x", 30, 59))
	clash(t, bookOf(t, line("z")), a, b, merge.Clash{ID: "y", Field: "all"}, merge.Clash{ID: "z", Field: "title"})
}

func TestNoCalendar(t *testing.T) {
	b := bookOf(t, line("a"), fairText)
	for _, none := range []*book.Book{nil, book.New(), {}} {
		becomes(t, none, none, none, "")
		becomes(t, nil, none, nil, "")
		becomes(t, none, b, none, b.Text())
		becomes(t, none, b, b, b.Text())
		becomes(t, b, none, none, "")
		becomes(t, b, b, none, "")
		clash(t, b, bookOf(t, line("a"), with(t, "long", "9")), none, merge.Clash{ID: "fair", Field: "all"})
		joined, _ := merge.Three(none, nil, none)
		if err := joined.Put(read(t, fairText)); err != nil || joined.Text() != fairText+"\n" || none.Text() != "" {
			t.Error(err, joined.Text(), none.Text())
		}
	}
}

// TestJoinedIsNew: what is put there, dropped, or written into an event of it, shows nowhere else.
func TestJoinedIsNew(t *testing.T) {
	for _, text := range []string{fairText, with(t, "title", "a"), with(t, "skips", "2000-01-01")} {
		base, a, b := bookOf(t, fairText), bookOf(t, with(t, "title", "a")), bookOf(t, text)
		before := []string{base.Text(), a.Text(), b.Text()}
		joined, _ := asked(t, base, a, b)
		want := joined.Text()
		e, _ := joined.Get("fair")
		e.Rule.Days[0], e.Skips[0], e.Moves[0] = 5, 5, api.Move{}
		if joined.Text() != want || joined == a || joined == b {
			t.Error(joined.Text())
		}
		if joined.Drop("fair") != nil || joined.Put(read(t, line("new"))) != nil {
			t.Error(joined.Text())
		}
		if !slices.Equal(before, []string{base.Text(), a.Text(), b.Text()}) {
			t.Error("an answer shares its events with what is given")
		}
		again, _ := asked(t, base, a, b)
		if base.Drop("fair") != nil || a.Drop("fair") != nil || b.Drop("fair") != nil || again.Text() != want {
			t.Error("a later change of what was given shows", again.Text())
		}
	}
}

func TestClashesAreNew(t *testing.T) {
	base, a, b := bookOf(t, fairText), bookOf(t, with(t, "title", "a")), bookOf(t, with(t, "title", "b"))
	_, clashes := merge.Three(base, a, b)
	clashes[0] = merge.Clash{ID: "scribbled"}
	clash(t, base, a, b, merge.Clash{ID: "fair", Field: "title"})
}
