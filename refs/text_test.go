package refs_test

import (
	"strconv"
	"strings"
	"testing"

	"lammastide/api"
	"lammastide/refs"
)

// wellTexts: each is read as it was written.
var wellTexts = []string{
	"",
	"a 0:0\n",
	"b 1:1 20:-\nmain 5:3 5:4 9:- 12:6\n",
	"0 1:1\n10 1:1\n9 1:1\na 1:1\na0 1:1\naa 1:1\nb 0:0\n",
	"abcdefghijkl 1099511627776:1099511627776 1099511627776:-\n",
	"a 1:2 1:2 1:- 1:2 1:- 3:0\n",
	"a 1099511627775:0 1099511627776:1\nb 0:10 10:-\n",
}

// fullText: as many names as may be there, and some that are not.
func fullText() string {
	var all strings.Builder
	for i := range 2 * api.MaxRefs {
		all.WriteString(numbered(i) + " 1:1")
		if i%2 == 1 {
			all.WriteString(" 2:-")
		}
		all.WriteString("\n")
	}
	return all.String()
}

func TestText(t *testing.T) {
	r := refs.New()
	set(t, r, "main", -1, 3, 5)
	set(t, r, "b", -1, 1, 1)
	set(t, r, "main", 3, 4, 5)
	drop(t, r, "main", 4, 9)
	set(t, r, "b10", -1, 0, 0)
	set(t, r, "main", -1, api.MaxTime, 12)
	drop(t, r, "b", 1, api.MaxTime)
	if s := r.Text(); s != "b 1:1 1099511627776:-\nb10 0:0\nmain 5:3 5:4 9:- 12:1099511627776\n" {
		t.Errorf("%q", s)
	}
}

func TestRead(t *testing.T) {
	for _, s := range append([]string{fullText()}, wellTexts...) {
		if r := read(t, s); r.Text() != s {
			t.Errorf("%q is read as %q", s, r.Text())
		}
	}
	r := read(t, wellTexts[2])
	hasNames(t, r, "main")
	hasLog(t, r, "b", refs.Entry{At: 1, To: 1}, refs.Entry{At: 20, To: -1})
	hasLog(t, r, "main", refs.Entry{At: 5, To: 3}, refs.Entry{At: 5, To: 4}, refs.Entry{At: 9, To: -1}, refs.Entry{At: 12, To: 6})
	is(t, r, "main", 6)
	isNot(t, r, "b")
}

// TestReadGoesOn: what is read is set and dropped as what was made by hand.
func TestReadGoesOn(t *testing.T) {
	r := read(t, wellTexts[2])
	refusesSet(t, r, "main", 6, 7, 11, api.ErrOrder)
	refusesSet(t, r, "b", -1, 7, 19, api.ErrOrder)
	set(t, r, "main", 6, 7, 12)
	set(t, r, "b", -1, 8, 20)
	set(t, r, "a", -1, 9, 0)
	if s := r.Text(); s != "a 0:9\nb 1:1 20:- 20:8\nmain 5:3 5:4 9:- 12:6 12:7\n" {
		t.Errorf("%q", s)
	}
	if read(t, wellTexts[2]).Text() != wellTexts[2] {
		t.Error("a second one shows what was set in the first one")
	}
	set(t, read(t, ""), "a", -1, 1, 1)
}

// refuses: Read tells a fault at this line, and no refs.
func refuses(t *testing.T, s string, at int, want error) {
	t.Helper()
	r, err := refs.Read(s)
	fault, is := err.(*api.Fault)
	if r != nil || !is || fault.At != at || fault.Err != want {
		t.Errorf("Read(%.80q) = %v, %v; want %v at %d", s, r, err, want, at)
	}
}

// refusesLine, as the first one, and behind others.
func refusesLine(t *testing.T, line string, want error) {
	t.Helper()
	refuses(t, line, 0, want)
	refuses(t, line+"z 1:1\n", 0, want)
	refuses(t, "0 1:1 2:-\n1 5:0\n"+line, 2, want)
}

func TestReadRefusesForms(t *testing.T) {
	for _, line := range []string{
		"\n", " \n", "b\n", "b \n", "b  1:1\n", " b 1:1\n", "b 1:1 \n", "b 1:1  2:2\n", "b\t1:1\n", "b 1:1\t2:2\n", "b 1:1\r\n", "b 1:1,2:2\n", "1:1\n", ": 1:1\n", "b b 1:1\n", "b 1:1 b\n", "b1:1\n",
		"b :\n", "b 1\n", "b 1:\n", "b :1\n", "b 1;1\n", "b 1:1:1\n", "b 1::1\n", "b 1:1:\n", "b :1:1\n", "b -\n", "b -:1\n", "b -:-\n", "b 1-\n", "b 1:--\n", "b 1:1 2:-1\n", "b 1:1 2:- 3\n", "b 1:1 2:1-\n", "b 1:1 2:−\n",
	} {
		refusesLine(t, line, api.ErrText)
	}
	for _, line := range []string{"b", "b 1:1", "b 1:1 2:-", "b 1:1 ", "b ", " ", "x", "\x00"} {
		refuses(t, line, 0, api.ErrText)
		refuses(t, "a 1:1\n"+line, 1, api.ErrText)
	}
}

func TestReadRefusesNames(t *testing.T) {
	for _, name := range wrongNames {
		refusesLine(t, strings.ReplaceAll(name, "\n", "\r")+" 1:1\n", api.ErrText)
	}
}

func TestReadRefusesNumbers(t *testing.T) {
	for _, n := range []string{"x", "00", "01", "007", "-1", "-0", "+1", "1.", "0x1", "1e3", "1_0", "１", "1x", "x1", "1099511627777", "9999999999999", "10000000000000", "01099511627776", "9223372036854775808", "18446744073709551617", strings.Repeat("9", 1000)} {
		refusesLine(t, "b "+n+":1\n", api.ErrText)
		refusesLine(t, "b "+n+":-\n", api.ErrText)
		refusesLine(t, "b 1:"+n+"\n", api.ErrText)
		refusesLine(t, "b 0:1 "+n+":1\n", api.ErrText)
		refusesLine(t, "b 0:1 1:"+n+"\n", api.ErrText)
	}
}

func TestReadRefusesOrders(t *testing.T) {
	refuses(t, "b 1:1\na 1:1\n", 1, api.ErrOrder)
	refuses(t, "b 1:1\nb 1:1\n", 1, api.ErrOrder)
	refuses(t, "b 1:1\nb 2:2\n", 1, api.ErrOrder)
	refuses(t, "a 1:1\nc 1:1\nb 1:1\n", 2, api.ErrOrder)
	refuses(t, "a2 1:1\na10 1:1\n", 1, api.ErrOrder)
	refuses(t, "a 1:1\n9 1:1\n", 1, api.ErrOrder)
	refuses(t, "ab 1:1\na 1:1\n", 1, api.ErrOrder)
	// Also where those ahead are not there any more.
	refuses(t, "b 1:1 2:-\na 1:1\n", 1, api.ErrOrder)
	for _, line := range []string{"b 2:1 1:1\n", "b 1:1 0:2\n", "b 1:1 3:2 2:3\n", "b 1:1 3:- 2:3\n", "b 10:1 9:2\n", "b 10:1 9:-\n", "b 1:1 5:2 6:3 6:4 5:5 7:6\n"} {
		refusesLine(t, line, api.ErrOrder)
	}
	// Times of one name say nothing of another one's.
	read(t, "a 9:1\nb 1:1\n")
}

func TestReadRefusesDrops(t *testing.T) {
	for _, line := range []string{"b 1:-\n", "b 0:-\n", "b 1:- 2:1\n", "b 1:- 2:-\n", "b 1:1 2:- 3:-\n", "b 1:1 2:- 2:-\n", "b 1:1 2:- 3:2 4:- 5:- 6:1\n"} {
		refusesLine(t, line, api.ErrShape)
	}
}

func TestReadRefusesMany(t *testing.T) {
	full := fullText()
	lines := 2 * api.MaxRefs
	refuses(t, full+"x 1:1\n", lines, api.ErrFull)
	refuses(t, full+"x 1:1 2:- 3:0\n", lines, api.ErrFull)
	refuses(t, full+"x 1:1 2:-\ny 1:1\n", lines+1, api.ErrFull)
	refuses(t, full+"x 1:1\nx\n", lines, api.ErrFull)
	read(t, full+"x 1:1 2:-\ny 1:1 1:-\n")
	// At the first that is too many, not at the end.
	refuses(t, "0 1:1\n"+full, lines-1, api.ErrFull)
	// Any number of names may be gone.
	var gone strings.Builder
	for i := range 20000 {
		gone.WriteString("g" + strconv.Itoa(100000+i) + " 1:1 2:-\n")
	}
	read(t, gone.String()+full)
	refuses(t, gone.String()+full+"x 1:1\n", 20000+lines, api.ErrFull)
}

// TestReadTellsTheFirst: of lines the first; of one line by the order of the errors' names.
func TestReadTellsTheFirst(t *testing.T) {
	refuses(t, "b 1:1\nc 1:-\na 1:1\n\n", 1, api.ErrShape)
	refuses(t, "b 1:1\na 1:1\nc 1:-\nx", 1, api.ErrOrder)
	refuses(t, "b 1:1\nx\na 1:1\n", 1, api.ErrText)
	refuses(t, "b 2:- 1:1\n", 0, api.ErrOrder)
	refuses(t, "b 1:1\na 1:-\n", 1, api.ErrOrder)
	refuses(t, "b 1:1 2:- 3:- 2:1\n", 0, api.ErrOrder)
	refuses(t, "b 2:- 1:x\n", 0, api.ErrText)
	refuses(t, "b 1:1\na 2:- 1:-", 1, api.ErrText)
	refuses(t, "b 1:1\nA 2:- 1:-\n", 1, api.ErrText)
	full := fullText()
	lines := 2 * api.MaxRefs
	refuses(t, full+"x 1:1", lines, api.ErrText)
	refuses(t, full+"a 1:1\n", lines, api.ErrOrder)
	refuses(t, full+"x 2:1 1:1\n", lines, api.ErrOrder)
	refuses(t, full+"x 1:- 1:1\n", lines, api.ErrShape)
}

// ownText: a text that is read is its refs' own.
func ownText(t *testing.T, s string) {
	t.Helper()
	r, err := refs.Read(s)
	if err != nil {
		if fault, is := err.(*api.Fault); r != nil || !is || fault.At < 0 || fault.At > strings.Count(s, "\n") {
			t.Errorf("Read(%q) tells %v beside %v", s, r, err)
		}
		return
	}
	if r.Text() != s || r.Copy().Text() != s {
		t.Errorf("Read(%q) is %q", s, r.Text())
	}
}

func TestWellTextsAreTheOnlyOnes(t *testing.T) {
	for _, s := range wellTexts {
		for i := range len(s) {
			ownText(t, s[:i])
			ownText(t, s[i:])
			for _, put := range []string{"", " ", ":", "0", "1", "9", "-", "a", "z", "\n", "\r", "\x00", "\xff", " 0:0", " 9:-"} {
				ownText(t, s[:i]+put+s[i:])
				ownText(t, s[:i]+put+s[i+1:])
			}
		}
	}
}

func FuzzRead(f *testing.F) {
	for _, s := range wellTexts {
		f.Add(s)
	}
	f.Fuzz(ownText)
}
