package book_test

import (
	"fmt"
	"slices"
	"strings"
	"testing"

	"lammastide/api"
	"lammastide/book"
	"lammastide/event"
)

// dayList: the text of so many days of one month, a comma between.
func dayList(n int) string {
	var days []string
	for i := range n {
		days = append(days, fmt.Sprintf("2000-03-%02d", i+1))
	}
	return strings.Join(days, ",")
}

// sized: a well text of so many bytes, from 9964 to 10004.
func sized(t *testing.T, size int) string {
	t.Helper()
	var text strings.Builder
	for i := range 35 {
		fmt.Fprintf(&text, "a%02d|%s|2000-01-01|1|once|%s|\n", i, strings.Repeat("x", api.MaxTitle), dayList(api.MaxSkips))
	}
	title := strings.Repeat("y", size-text.Len()-len("b||2000-01-01|10|once||\n"))
	text.WriteString("b|" + title + "|2000-01-01|10|once||\n")
	if text.Len() != size || len(title) > api.MaxTitle {
		t.Fatal(text.Len(), len(title))
	}
	return text.String()
}

func TestText(t *testing.T) {
	holds(t, book.New(), "")
	holds(t, bookOf(t, onceText), onceText+"\n")
	holds(t, three(t), threeText)
	for _, order := range [][]string{{coldText, fairText, onceText}, {onceText, fairText, coldText}, {fairText, coldText, onceText}} {
		holds(t, bookOf(t, order...), threeText)
	}
}

func TestRead(t *testing.T) {
	b, err := book.Read(threeText)
	if err != nil {
		t.Fatal(err)
	}
	if ids := b.IDs(); !slices.Equal(ids, []string{"c0", "fair", "once"}) {
		t.Error(ids)
	}
	for id, want := range map[string]string{"c0": coldText, "fair": fairText, "once": onceText} {
		if e, is := b.Get(id); !is || event.Text(e) != want {
			t.Errorf("%s: %v, %v", id, e, is)
		}
	}
	if got := b.On(20); !slices.Equal(got, []string{"c0", "fair"}) {
		t.Error(got)
	}
	empty, err := book.Read("")
	if err != nil || empty == nil || len(empty.IDs()) > 0 {
		t.Fatal(empty, err)
	}
	if err := empty.Put(read(t, onceText)); err != nil {
		t.Error(err)
	}
}

// refuses: Read tells a fault at this line, and no book.
func refuses(t *testing.T, s string, at int, want error) {
	t.Helper()
	b, err := book.Read(s)
	fault, is := err.(*api.Fault)
	if b != nil || !is || fault.At != at || fault.Err != want {
		t.Errorf("Read(%.80q) = %v, %v; want %v at %d", s, b, err, want, at)
	}
}

func TestReadRefusesLines(t *testing.T) {
	for _, c := range []struct {
		line string
		want error
	}{
		{"", api.ErrText}, {" ", api.ErrText}, {"x", api.ErrText}, {"p||2000-01-01|1|once|", api.ErrText}, {"p||2000-01-01|1|once|||", api.ErrText},
		{"p||2000-01-01|1|once||\r", api.ErrText}, {"p||2000-01-01|1|once|| ", api.ErrText}, {"p||2000-01-01|1|once||\x00", api.ErrText}, {"p|\x7f|2000-01-01|1|once||", api.ErrText}, {"p||2000-01-01|01|once||", api.ErrText},
		{"|x|2000-01-01|1|once||", api.ErrName}, {"P|x|2000-01-01|1|once||", api.ErrName}, {" p|x|2000-01-01|1|once||", api.ErrName}, {"pthirteenchar|x|2000-01-01|1|once||", api.ErrName},
		{"p||2000-02-30|1|once||", api.ErrBound}, {"p||2000-01-01|61|once||", api.ErrBound}, {"p||2000-01-01|1|daily 0||", api.ErrBound},
		{"p||2000-01-01|1|daily 1 mo||", api.ErrShape}, {"p||2000-01-01|1|weekly 1 tu,mo||", api.ErrOrder}, {"p||2000-01-01|1|once|2000-01-02,2000-01-01|", api.ErrOrder},
		{"p||2000-01-01|1|once|" + dayList(21) + "|", api.ErrFull}, {"p||2000-01-01|1|once|2000-01-01|2000-01-01>2000-01-02", api.ErrExist},
	} {
		refuses(t, c.line+"\n", 0, c.want)
		refuses(t, threeText+c.line+"\n", 3, c.want)
		refuses(t, coldText+"\n"+c.line+"\n"+onceText+"\n", 1, c.want)
	}
}

func TestReadRefusesOrder(t *testing.T) {
	line := func(id string) string { return id + "||2000-01-01|1|once||\n" }
	for _, pair := range [][2]string{{"a", "a"}, {"b", "a"}, {"aa", "a"}, {"a", "9"}, {"2", "10"}, {"zz", "z9"}, {"a1", "a"}} {
		refuses(t, line(pair[0])+line(pair[1]), 1, api.ErrOrder)
		refuses(t, line("0")+line(pair[0])+line(pair[1])+line("zzz"), 2, api.ErrOrder)
	}
	// Held against the one ahead, the first of all aside.
	refuses(t, line("a")+line("c")+line("b"), 2, api.ErrOrder)
	refuses(t, line("b")+line("c")+line("b"), 2, api.ErrOrder)
	if b, err := book.Read(line("0") + line("00") + line("10") + line("2") + line("a") + line("az") + line("b")); err != nil || len(b.IDs()) != 7 {
		t.Error(err)
	}
}

func TestReadRefusesMany(t *testing.T) {
	text := full(t).Text()
	if b, err := book.Read(text); err != nil || len(b.IDs()) != api.MaxEvents {
		t.Error(err)
	}
	refuses(t, text+"x60||2000-01-06|1|once||\n", 60, api.ErrFull)
	refuses(t, text+"y||2000-01-06|1|once||\nx\n", 60, api.ErrFull)
	// Ahead of that what is wrong with the line itself.
	refuses(t, text+"x59||2000-01-06|1|once||\n", 60, api.ErrOrder)
	refuses(t, text+"a||2000-01-06|1|once||\n", 60, api.ErrOrder)
	refuses(t, text+"a||2000-01-06|0|once||\n", 60, api.ErrBound)
	refuses(t, text+"\n", 60, api.ErrText)
	refuses(t, text+"y||2000-01-06|1|once||", 60, api.ErrText)
}

func TestReadTellsTheFirst(t *testing.T) {
	refuses(t, "P||2000-01-01|1|once||\nx\n", 0, api.ErrName)
	refuses(t, onceText+"\n"+fairText+"\nx\n", 1, api.ErrOrder)
	refuses(t, onceText+"\nx\n"+fairText+"\n", 1, api.ErrText)
	refuses(t, onceText+"\n"+coldText+"\n"+fairText, 1, api.ErrOrder)
	// In one line: what event.Read tells, then the order.
	refuses(t, onceText+"\na||2000-01-01|0|once||\n", 1, api.ErrBound)
	refuses(t, onceText+"\nA||2000-01-01|1|once||\n", 1, api.ErrName)
}

// TestReadWantsLineEnds: a last line without its end is ErrText, whatever it is else.
func TestReadWantsLineEnds(t *testing.T) {
	refuses(t, onceText, 0, api.ErrText)
	refuses(t, threeText[:len(threeText)-1], 2, api.ErrText)
	refuses(t, threeText+"p", 3, api.ErrText)
	refuses(t, threeText+"p||2000-01-01|1|once||", 3, api.ErrText)
	refuses(t, threeText+"p||2000-01-01|0|once||", 3, api.ErrText)
	refuses(t, threeText+"P||2000-01-01|1|once||", 3, api.ErrText)
	refuses(t, threeText+"a||2000-01-01|1|once||", 3, api.ErrText)
	refuses(t, coldText+"\n\n"+onceText, 1, api.ErrText)
	refuses(t, "\n", 0, api.ErrText)
	refuses(t, "\n"+threeText, 0, api.ErrText)
	refuses(t, threeText+"\n", 3, api.ErrText)
	refuses(t, strings.ReplaceAll(threeText, "\n", "\r\n"), 0, api.ErrText)
}

func TestReadRefusesLongTexts(t *testing.T) {
	most := sized(t, api.MaxText)
	b, err := book.Read(most)
	if err != nil || b.Text() != most {
		t.Error(err)
	}
	// Bare, and ahead of what is wrong with a line.
	for _, s := range []string{sized(t, api.MaxText+1), strings.Repeat("x", api.MaxText+1), strings.Repeat("\n", api.MaxText+1), "P\n" + most, strings.Repeat(threeText, 5000)} {
		if b, err := book.Read(s); b != nil || err != api.ErrBound {
			t.Errorf("%d bytes: %v, %v", len(s), b, err)
		}
	}
	refuses(t, strings.Repeat("x", api.MaxText), 0, api.ErrText)
	refuses(t, strings.Repeat("\n", api.MaxText), 0, api.ErrText)
}

// TestLongBooks: a book whose text is too long to be read is a book all the same.
func TestLongBooks(t *testing.T) {
	b, err := book.Read(sized(t, api.MaxText))
	if err != nil {
		t.Fatal(err)
	}
	if err := b.Put(read(t, onceText)); err != nil {
		t.Fatal(err)
	}
	want := sized(t, api.MaxText) + onceText + "\n"
	holds(t, b, want)
	if !book.Same(b, b.Copy()) {
		t.Error("a book is not as its copy")
	}
	if _, err := book.Read(want); err != api.ErrBound {
		t.Error(err)
	}
}

func TestSame(t *testing.T) {
	a := three(t)
	if !book.Same(a, a) || !book.Same(a, bookOf(t, onceText, coldText, fairText)) || !book.Same(a, a.Copy()) {
		t.Error("the same events are not the same book")
	}
	for _, texts := range [][]string{
		nil, {coldText}, {coldText, fairText}, {fairText, onceText}, {coldText, onceText},
		{coldText, fairText, onceText, "zz||2000-01-08|1|once||"},
		{coldText, fairText, "onces|Fair|2000-01-08|1|once||"},
		{coldText, fairText, "once|Fairs|2000-01-08|1|once||"},
		{coldText, fairText, "once|Fair|2000-01-09|1|once||"},
		{coldText, fairText, "once|Fair|2000-01-08|2|once||"},
		{coldText, fairText, "once|Fair|2000-01-08|1|daily 1 count 1||"},
		{coldText, fairText, "once|Fair|2000-01-08|1|once|2000-01-09|"},
		{coldText, fairText, "once|Fair|2000-01-08|1|once||2000-01-09>2000-01-09"},
	} {
		if b := bookOf(t, texts...); book.Same(a, b) || book.Same(b, a) {
			t.Errorf("%q is %q", b.Text(), a.Text())
		}
	}
	holds(t, a, threeText)
}

func TestSameOfNone(t *testing.T) {
	a := three(t)
	if !book.Same(nil, nil) || !book.Same(nil, book.New()) || !book.Same(book.New(), nil) || !book.Same(book.New(), book.New()) {
		t.Error("nil is not as an empty one")
	}
	if book.Same(nil, a) || book.Same(a, nil) || book.Same(book.New(), a) {
		t.Error("nil is as one that is not empty")
	}
	for _, id := range a.IDs() {
		if err := a.Drop(id); err != nil {
			t.Error(err)
		}
	}
	if !book.Same(nil, a) || !book.Same(a, book.New()) {
		t.Error("what was dropped counts")
	}
}

// TestSameOfLists: a nil list and an empty one are one thing.
func TestSameOfLists(t *testing.T) {
	e := read(t, onceText)
	e.Rule.Days, e.Skips, e.Moves = []int{}, []int{}, []api.Move{}
	b := book.New()
	if err := b.Put(e); err != nil || !book.Same(b, bookOf(t, onceText)) {
		t.Error(err)
	}
}

// readBack: P52 of one book.
func readBack(t *testing.T, b *book.Book) {
	t.Helper()
	s := b.Text()
	again, err := book.Read(s)
	if err != nil || !book.Same(again, b) || again.Text() != s || !slices.Equal(again.IDs(), b.IDs()) {
		t.Fatalf("%q is read as %v, %v", s, again, err)
	}
	for _, id := range b.IDs() {
		e, _ := b.Get(id)
		got, is := again.Get(id)
		if !is || event.Text(got) != event.Text(e) {
			t.Fatalf("%s: %v; want %v", id, got, e)
		}
	}
}

func TestReadAsWritten(t *testing.T) {
	readBack(t, book.New())
	readBack(t, three(t))
	readBack(t, full(t))
	b := book.New()
	n := 0
	for _, id := range []string{"z", "az09az09az09", "0", "9", "a"} {
		for _, title := range []string{"", " ", "a,b>c", strings.Repeat("~", api.MaxTitle)} {
			for _, rest := range []string{"2000-01-01|1|once||", "2199-12-31|60|weekly 2 mo,su count 1000|" + dayList(3) + "|", "2000-02-29|9|yearly 100 until 2000-01-01||2000-01-30>2199-12-31"} {
				name := id
				if len(id) < api.MaxName {
					name += fmt.Sprint(n % 17)
				}
				n++
				if err := b.Put(read(t, name+"|"+title+"|"+rest)); err != nil {
					t.Fatal(err)
				}
				readBack(t, b)
			}
		}
	}
	for _, id := range b.IDs() {
		if err := b.Drop(id); err != nil {
			t.Fatal(err)
		}
		readBack(t, b)
	}
}

// ownText: a text that is read is its book's own.
func ownText(t *testing.T, s string) {
	t.Helper()
	b, err := book.Read(s)
	if err != nil {
		if b != nil {
			t.Errorf("Read(%q) tells a book beside %v", s, err)
		}
		return
	}
	if b.Text() != s || len(b.IDs()) != strings.Count(s, "\n") {
		t.Errorf("Read(%q) is %q", s, b.Text())
	}
}

func TestWellTextsAreTheOnlyOnes(t *testing.T) {
	for i := range len(threeText) {
		for _, put := range []string{"", " ", ",", "|", "0", "x", "\n", "\r", "\x00", "\xff"} {
			ownText(t, threeText[:i]+put+threeText[i:])
			ownText(t, threeText[:i]+put+threeText[i+1:])
		}
	}
}

func FuzzRead(f *testing.F) {
	f.Add("")
	f.Add(threeText)
	f.Add(coldText + "\n" + coldText + "\n")
	f.Fuzz(ownText)
}
