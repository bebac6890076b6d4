package book_test

import (
	"fmt"
	"math"
	"slices"
	"testing"

	"lammastide/api"
	"lammastide/book"
	"lammastide/event"
)

// Three events, with something in every field of one of them; in the order of their IDs.
const (
	coldText = "c0||2000-01-13|1|daily 2|2000-01-15|"
	fairText = "fair|The Fair|2000-01-05|3|weekly 2 mo,we count 9|2000-01-17|2000-01-19>2000-01-20,2000-01-31>2000-01-05"
	onceText = "once|Fair|2000-01-08|1|once||"
)

const threeText = coldText + "\n" + fairText + "\n" + onceText + "\n"

func read(t *testing.T, s string) api.Event {
	t.Helper()
	e, err := event.Read(s)
	if err != nil {
		t.Fatal(s, err)
	}
	return e
}

// bookOf events, put in the order in which they stand.
func bookOf(t *testing.T, texts ...string) *book.Book {
	t.Helper()
	b := book.New()
	for _, s := range texts {
		if err := b.Put(read(t, s)); err != nil {
			t.Fatal(s, err)
		}
	}
	return b
}

func three(t *testing.T) *book.Book {
	t.Helper()
	return bookOf(t, fairText, onceText, coldText)
}

// full: a book with as many events as there may be, x00 and on.
func full(t *testing.T) *book.Book {
	t.Helper()
	b := book.New()
	for i := range api.MaxEvents {
		if err := b.Put(read(t, fmt.Sprintf("x%02d||2000-01-06|1|once||", i))); err != nil {
			t.Fatal(i, err)
		}
	}
	return b
}

// holds: a book is told as one with just this text.
func holds(t *testing.T, b *book.Book, want string) {
	t.Helper()
	if got := b.Text(); got != want {
		t.Errorf("%q; want %q", got, want)
	}
}

func TestNewIsEmpty(t *testing.T) {
	b := book.New()
	if b == nil || len(b.IDs()) > 0 || len(b.On(0)) > 0 || b.Text() != "" || b.Drop("a") != api.ErrNone {
		t.Error(b)
	}
	if e, is := b.Get("a"); is || e.ID != "" {
		t.Error(e, is)
	}
	if err := b.Put(read(t, onceText)); err != nil {
		t.Error(err)
	}
	holds(t, book.New(), "")
}

func TestPutAndGet(t *testing.T) {
	b := three(t)
	for id, want := range map[string]string{"c0": coldText, "fair": fairText, "once": onceText} {
		if e, is := b.Get(id); !is || event.Text(e) != want {
			t.Errorf("%s: %v, %v", id, e, is)
		}
	}
	for _, id := range []string{"", "c", "c00", "C0", "fai", "fair ", "|", "\n", "\xff"} {
		e, is := b.Get(id)
		if is || e.ID != "" || e.Title != "" || e.Start != 0 || e.Long != 0 || e.Rule.Freq != "" || e.Rule.Until != 0 || len(e.Skips) > 0 || len(e.Moves) > 0 {
			t.Errorf("%q: %v, %v", id, e, is)
		}
	}
	holds(t, b, threeText)
}

func TestPutInItsPlace(t *testing.T) {
	b := three(t)
	const other = "fair|Another|2001-01-01|1|once||"
	if err := b.Put(read(t, other)); err != nil {
		t.Fatal(err)
	}
	if ids := b.IDs(); !slices.Equal(ids, []string{"c0", "fair", "once"}) {
		t.Error(ids)
	}
	holds(t, b, coldText+"\n"+other+"\n"+onceText+"\n")
}

func TestPutRefuses(t *testing.T) {
	skips21 := make([]int, api.MaxSkips+1)
	for i := range skips21 {
		skips21[i] = i
	}
	for i, c := range []struct {
		change func(e *api.Event)
		want   error
	}{
		{func(e *api.Event) { *e = api.Event{} }, api.ErrName},
		{func(e *api.Event) { e.ID = "" }, api.ErrName},
		{func(e *api.Event) { e.ID = "Fair" }, api.ErrName},
		{func(e *api.Event) { e.ID = "thirteenchars" }, api.ErrName},
		{func(e *api.Event) { e.Title = "a\nb" }, api.ErrText},
		{func(e *api.Event) { e.Title = "a|b" }, api.ErrText},
		{func(e *api.Event) { e.Start = -1 }, api.ErrBound},
		{func(e *api.Event) { e.Start = api.MaxDay + 1 }, api.ErrBound},
		{func(e *api.Event) { e.Long = 0 }, api.ErrBound},
		{func(e *api.Event) { e.Rule.Freq = "hourly" }, api.ErrName},
		{func(e *api.Event) { e.Rule.Until = 5 }, api.ErrShape},
		{func(e *api.Event) { e.Rule.Days = []int{2, 0} }, api.ErrOrder},
		{func(e *api.Event) { e.Skips = skips21 }, api.ErrFull},
		{func(e *api.Event) { e.Skips = []int{5, 5} }, api.ErrOrder},
		{func(e *api.Event) { e.Skips = []int{18} }, api.ErrExist},
		{func(e *api.Event) { e.Moves[0].To = math.MaxInt }, api.ErrBound},
	} {
		b, filled := three(t), full(t)
		e := read(t, fairText)
		c.change(&e)
		if err := b.Put(e); err != c.want {
			t.Errorf("%d: %v; want %v", i, err, c.want)
		}
		holds(t, b, threeText)
		// In a full book too what is wrong with the event comes first.
		if err := filled.Put(e); err != c.want {
			t.Errorf("%d, full: %v; want %v", i, err, c.want)
		}
		if !book.Same(filled, full(t)) {
			t.Errorf("%d: a call that answers an error changes the book", i)
		}
	}
}

func TestPutIntoAFullBook(t *testing.T) {
	b := full(t)
	if err := b.Put(read(t, onceText)); err != api.ErrFull {
		t.Error(err)
	}
	if _, is := b.Get("once"); is || !book.Same(b, full(t)) {
		t.Error("a call that answers an error changes the book")
	}
	for _, id := range []string{"x00", "x30", "x59"} {
		if err := b.Put(read(t, id+"|again|2000-01-07|1|once||")); err != nil {
			t.Error(id, err)
		}
		if e, is := b.Get(id); !is || e.Title != "again" || len(b.IDs()) != api.MaxEvents {
			t.Error(e, is)
		}
	}
	if err := b.Drop("x30"); err != nil {
		t.Error(err)
	}
	if err := b.Put(read(t, onceText)); err != nil || len(b.IDs()) != api.MaxEvents {
		t.Error(err)
	}
	if err := b.Put(read(t, "x30||2000-01-06|1|once||")); err != api.ErrFull {
		t.Error(err)
	}
}

func TestDrop(t *testing.T) {
	b := three(t)
	for _, id := range []string{"", "fai", "fairs", "FAIR", "fair\n", "zz", "\xff"} {
		if err := b.Drop(id); err != api.ErrNone {
			t.Errorf("%q: %v", id, err)
		}
	}
	holds(t, b, threeText)
	if err := b.Drop("fair"); err != nil {
		t.Error(err)
	}
	holds(t, b, coldText+"\n"+onceText+"\n")
	if err := b.Drop("fair"); err != api.ErrNone {
		t.Error(err)
	}
	if e, is := b.Get("fair"); is || e.ID != "" {
		t.Error(e)
	}
	if b.Drop("once") != nil || b.Drop("c0") != nil || !book.Same(b, book.New()) {
		t.Error(b.IDs())
	}
	if err := b.Put(read(t, fairText)); err != nil {
		t.Error(err)
	}
	holds(t, b, fairText+"\n")
}

// TestIDsRise by their bytes, however they came in.
func TestIDsRise(t *testing.T) {
	want := []string{"0", "00", "1", "10", "2", "9", "a", "a0", "aa", "ab", "b", "ba", "z", "zz"}
	for turn := range want {
		b := book.New()
		for i := range want {
			id := want[(turn+i*3)%len(want)]
			if err := b.Put(read(t, id+"||2000-01-06|1|once||")); err != nil {
				t.Fatal(err)
			}
		}
		if got := b.IDs(); !slices.Equal(got, want) {
			t.Errorf("IDs: %v; want %v", got, want)
		}
		if got := b.On(5); !slices.Equal(got, want) {
			t.Errorf("On: %v; want %v", got, want)
		}
	}
}

func TestOn(t *testing.T) {
	b := three(t)
	for _, c := range []struct {
		d    int
		want []string
	}{
		{0, nil}, {3, nil}, {4, []string{"fair"}}, {6, []string{"fair"}}, {7, []string{"once"}}, {8, nil},
		// The 15th and the 17th are skipped, the 19th is moved to the 20th.
		{12, []string{"c0"}}, {13, nil}, {14, nil}, {16, []string{"c0"}}, {18, []string{"c0"}}, {19, []string{"fair"}}, {20, []string{"c0", "fair"}}, {21, []string{"fair"}},
		{api.MaxDay, []string{"c0"}}, {api.MaxDay - 1, nil},
		{-1, nil}, {api.MaxDay + 1, nil}, {math.MinInt, nil}, {math.MaxInt, nil},
	} {
		if got := b.On(c.d); !slices.Equal(got, c.want) {
			t.Errorf("%d: %v; want %v", c.d, got, c.want)
		}
	}
}

func TestOnAgainstCovers(t *testing.T) {
	texts := []string{coldText, fairText, onceText, "a||2000-01-01|60|yearly 1||", "b||2000-01-31|2|monthly 1|2000-03-31|", "z||2000-01-01|1|daily 3||2000-01-04>2000-01-01"}
	b := bookOf(t, texts...)
	for d := -2; d < 150; d++ {
		var want []string
		for _, s := range texts {
			if e := read(t, s); event.Covers(e, d) {
				want = append(want, e.ID)
			}
		}
		slices.Sort(want)
		if got := b.On(d); !slices.Equal(got, want) {
			t.Errorf("%d: %v; want %v", d, got, want)
		}
	}
}

// TestOnGoesWithTheBook: what is put or dropped shows on the next call.
func TestOnGoesWithTheBook(t *testing.T) {
	b := three(t)
	if err := b.Put(read(t, "once||2000-01-05|1|once||")); err != nil {
		t.Fatal(err)
	}
	if got := b.On(4); !slices.Equal(got, []string{"fair", "once"}) || len(b.On(7)) > 0 {
		t.Error(got)
	}
	if err := b.Drop("fair"); err != nil {
		t.Fatal(err)
	}
	if got := b.On(4); !slices.Equal(got, []string{"once"}) {
		t.Error(got)
	}
}

func TestCopyIsAnother(t *testing.T) {
	b := three(t)
	c := b.Copy()
	if c == b || !book.Same(b, c) {
		t.Error(c.Text())
	}
	if b.Drop("fair") != nil || b.Put(read(t, "once|x|2000-01-08|1|once||")) != nil {
		t.Fatal(b.Text())
	}
	holds(t, c, threeText)
	if c.Drop("c0") != nil || c.Put(read(t, "new||2000-01-08|1|once||")) != nil {
		t.Fatal(c.Text())
	}
	holds(t, b, coldText+"\nonce|x|2000-01-08|1|once||\n")
	empty := book.New()
	other := empty.Copy()
	if err := other.Put(read(t, onceText)); err != nil {
		t.Error(err)
	}
	holds(t, empty, "")
}

// scribble over all lists of an event.
func scribble(e *api.Event) {
	for i := range e.Rule.Days {
		e.Rule.Days[i] = 77
	}
	for i := range e.Skips {
		e.Skips[i] = 77
	}
	for i := range e.Moves {
		e.Moves[i] = api.Move{From: 77, To: 77}
	}
}

func TestWhatIsPutIsNotKept(t *testing.T) {
	b := bookOf(t, coldText, onceText)
	e := read(t, fairText)
	if err := b.Put(e); err != nil || event.Text(e) != fairText {
		t.Error(e, err)
	}
	scribble(&e)
	holds(t, b, threeText)
}

func TestWhatIsAnsweredIsNew(t *testing.T) {
	b := three(t)
	c := b.Copy()
	for range 2 {
		for _, one := range []*book.Book{b, c} {
			e, _ := one.Get("fair")
			scribble(&e)
			ids, on := one.IDs(), one.On(20)
			for i := range ids {
				ids[i] = "scribbled"
			}
			for i := range on {
				on[i] = "scribbled"
			}
			holds(t, b, threeText)
			holds(t, c, threeText)
			if got := b.On(20); !slices.Equal(got, []string{"c0", "fair"}) {
				t.Error(got)
			}
		}
	}
}

// TestPutReadsNoFurther: what lies behind the lists' lengths is neither read nor written.
func TestPutReadsNoFurther(t *testing.T) {
	days, skips, moves := []int{0, 2, 99}, []int{16, 3}, []api.Move{{From: 18, To: 19}, {From: -5, To: -5}}
	e := read(t, fairText)
	e.Rule.Days, e.Skips, e.Moves = days[:2], skips[:1], moves[:1]
	b := book.New()
	if err := b.Put(e); err != nil {
		t.Fatal(err)
	}
	got, _ := b.Get("fair")
	_, _, _ = append(got.Rule.Days, 5), append(got.Skips, 5), append(got.Moves, api.Move{})
	holds(t, b, "fair|The Fair|2000-01-05|3|weekly 2 mo,we count 9|2000-01-17|2000-01-19>2000-01-20\n")
	if !slices.Equal(days, []int{0, 2, 99}) || !slices.Equal(skips, []int{16, 3}) || moves[1].From != -5 {
		t.Error(days, skips, moves)
	}
}

// TestNoBook: the nil that Read answers beside an error is as an empty one, and nothing can be put there.
func TestNoBook(t *testing.T) {
	b, err := book.Read("x")
	if b != nil || err == nil {
		t.Fatal(b, err)
	}
	if len(b.IDs()) > 0 || len(b.On(5)) > 0 || b.Text() != "" || b.Drop("a") != api.ErrNone {
		t.Error("nil tells something")
	}
	if e, is := b.Get("a"); is || e.ID != "" {
		t.Error(e)
	}
	if b.Put(api.Event{}) != api.ErrName || b.Put(read(t, onceText)) == nil {
		t.Error("nil was put into")
	}
	c := b.Copy()
	if c == nil || c.Put(read(t, onceText)) != nil {
		t.Error(c)
	}
	var zero book.Book
	if err := zero.Put(read(t, onceText)); err != nil || zero.Text() != onceText+"\n" {
		t.Error(err, zero.Text())
	}
}
