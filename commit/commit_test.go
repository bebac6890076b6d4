package commit_test

import (
	"reflect"
	"strings"
	"testing"

	"lammastide/api"
	"lammastide/commit"
)

// longNote has as many bytes as a note may have, the least and the greatest among them.
var longNote = strings.Repeat(" ~", api.MaxNote/2)

// written: commits that are well, and their texts.
var written = []struct {
	text string
	c    commit.Commit
}{
	{"commit 0\n0 ", commit.Commit{}},
	{"commit 7\n0 ", commit.Commit{Tree: 7}},
	{"commit 3 4\n77 a b", commit.Commit{Tree: 3, Parents: []int{4}, At: 77, Note: "a b"}},
	{"commit 3 5 4\n77 x", commit.Commit{Tree: 3, Parents: []int{5, 4}, At: 77, Note: "x"}},
	{"commit 3 4 4\n10  ", commit.Commit{Tree: 3, Parents: []int{4, 4}, At: 10, Note: " "}},
	{"commit 3 3 0\n10  x ", commit.Commit{Tree: 3, Parents: []int{3, 0}, At: 10, Note: " x "}},
	{"commit 1099511627776 1099511627776 1099511627775\n1099511627776 9", commit.Commit{Tree: api.MaxTime, Parents: []int{api.MaxTime, api.MaxTime - 1}, At: api.MaxTime, Note: "9"}},
	{"commit 10\n0 commit 10", commit.Commit{Tree: 10, Note: "commit 10"}},
	{"commit 1\n2 0 |:#\"\\", commit.Commit{Tree: 1, At: 2, Note: "0 |:#\"\\"}},
	{"commit 1\n2 " + longNote, commit.Commit{Tree: 1, At: 2, Note: longNote}},
}

func TestText(t *testing.T) {
	for _, w := range written {
		if s := commit.Text(w.c); s != w.text {
			t.Errorf("%v: %q; want %q", w.c, s, w.text)
		}
	}
	if s := commit.Text(commit.Commit{Parents: []int{}}); s != "commit 0\n0 " {
		t.Errorf("%q", s)
	}
}

// TestTextOfWhatIsNotWell: nothing says that it has none.
func TestTextOfWhatIsNotWell(t *testing.T) {
	for want, c := range map[string]commit.Commit{
		"commit 1 2 3 4\n5 x":                   {Tree: 1, Parents: []int{2, 3, 4}, At: 5, Note: "x"},
		"commit 1099511627777\n12345678901234 ": {Tree: api.MaxTime + 1, At: 12345678901234},
		"commit 0\n0 a\nb\xff":                  {Note: "a\nb\xff"},
		"commit 0\n0 " + longNote + "x":         {Note: longNote + "x"},
	} {
		if s := commit.Text(c); s != want {
			t.Errorf("%v: %q; want %q", c, s, want)
		}
	}
}

func TestRead(t *testing.T) {
	for _, w := range written {
		if c, err := commit.Read(w.text); err != nil || !reflect.DeepEqual(c, w.c) {
			t.Errorf("%q: %v, %v; want %v", w.text, c, err, w.c)
		}
	}
}

// refuses: Read tells just this error, and no commit.
func refuses(t *testing.T, s string, want error) {
	t.Helper()
	if c, err := commit.Read(s); err != want || !reflect.DeepEqual(c, commit.Commit{}) {
		t.Errorf("%.100q: %v, %v; want %v", s, c, err, want)
	}
}

func TestReadRefusesForms(t *testing.T) {
	for _, s := range []string{
		"", " ", "\n", "\n0 ", " \n0 ", "0\n0 ", "commit", "commit\n", "commit\n0 ", "commit \n0 ", "commit 0", "commit 0\n", "commit 0\n0", "commit 0\n ", "commit 0\n x", "commit 0 0 ", "commit 0\r\n0 ", "commit 0\n\n0 ", "\ncommit 0\n0 ", "commit\n0\n0 ", "commit 0\n1\n2 ", "commit 0\n0\n",
		"comit 0\n0 ", "Commit 0\n0 ", "commits 0\n0 ", " commit 0\n0 ", "commit  0\n0 ", "commit\t0\n0 ", "commit0\n0 ", "commit 0 \n0 ", "commit 0  1\n0 ", "commit 0 1 \n0 ", "commit 0,1\n0 ",
	} {
		refuses(t, s, api.ErrText)
	}
}

// wrongNumbers: no number is written so.
var wrongNumbers = []string{"", "x", "00", "01", "007", "-1", "-0", "+1", "1.", "0x1", "1e3", "1_0", "１", "1x", "x1", "10000000000000", "12345678901234", "01099511627776", "9223372036854775808", "18446744073709551617", strings.Repeat("9", 1000)}

func TestReadRefusesNumbers(t *testing.T) {
	for _, n := range wrongNumbers {
		refuses(t, "commit "+n+"\n0 ", api.ErrText)
		refuses(t, "commit 0 "+n+"\n0 ", api.ErrText)
		refuses(t, "commit 0 1 "+n+"\n0 ", api.ErrText)
		refuses(t, "commit 0\n"+n+" ", api.ErrText)
	}
	for _, n := range []string{"1099511627777", "1099511627778", "1999999999999", "9999999999999"} {
		refuses(t, "commit "+n+"\n0 ", api.ErrBound)
		refuses(t, "commit 0 "+n+"\n0 ", api.ErrBound)
		refuses(t, "commit 0 1 "+n+"\n0 ", api.ErrBound)
		refuses(t, "commit 0\n"+n+" ", api.ErrBound)
	}
}

func TestReadRefusesParents(t *testing.T) {
	refuses(t, "commit 0 1 2 3\n0 ", api.ErrBound)
	refuses(t, "commit 0 1 1 1\n0 ", api.ErrBound)
	refuses(t, "commit 0"+strings.Repeat(" 0", 100000)+"\n0 ", api.ErrBound)
}

func TestReadRefusesNotes(t *testing.T) {
	for _, note := range []string{"\n", "a\n", "a\nb", "\t", "\x00", "\x1f", "\x7f", "\x80", "\xff", "é", longNote + "x", longNote + " ", strings.Repeat("x", 100000)} {
		refuses(t, "commit 0\n0 "+note, api.ErrText)
	}
}

// TestReadTellsTheFirst: the form, then numbers that are too great or too many, then the note.
func TestReadTellsTheFirst(t *testing.T) {
	for _, n := range wrongNumbers {
		refuses(t, "commit 1099511627777\n"+n+" ", api.ErrText)
		refuses(t, "commit "+n+"\n1099511627777 ", api.ErrText)
		refuses(t, "commit 0 1099511627777 "+n+"\n0 ", api.ErrText)
		refuses(t, "commit 0 1 2 "+n+"\n0 ", api.ErrText)
		refuses(t, "commit 0 1 2 3\n"+n+" ", api.ErrText)
	}
	refuses(t, "commit 0 1 2 3\n0", api.ErrText)
	refuses(t, "comit 1099511627777\n0 ", api.ErrText)
	for _, note := range []string{"\n", "\x7f", longNote + "x"} {
		refuses(t, "commit 0 1 2 3\n0 "+note, api.ErrBound)
		refuses(t, "commit 1099511627777\n0 "+note, api.ErrBound)
		refuses(t, "commit 0\n1099511627777 "+note, api.ErrBound)
	}
}

// TestReadIsNew: what is written into an answer shows in no other one.
func TestReadIsNew(t *testing.T) {
	const s = "commit 3 4 5\n77 x"
	one, _ := commit.Read(s)
	one.Parents[0] = 9
	if two, err := commit.Read(s); err != nil || commit.Text(two) != s {
		t.Error(two, err)
	}
}

// ownText: a text that is read is its commit's own, and read as it was written.
func ownText(t *testing.T, s string) {
	t.Helper()
	c, err := commit.Read(s)
	switch {
	case err == nil && commit.Text(c) != s:
		t.Errorf("Read(%q) is %q", s, commit.Text(c))
	case err != nil && (err != api.ErrText && err != api.ErrBound || !reflect.DeepEqual(c, commit.Commit{})):
		t.Errorf("Read(%q): %v beside %v", s, c, err)
	}
}

func TestWellTextsAreTheOnlyOnes(t *testing.T) {
	for _, w := range written {
		s := w.text
		for i := range len(s) {
			ownText(t, s[:i])
			ownText(t, s[i:])
			for _, put := range []string{"", " ", "0", "1", "9", "-", "x", "\n", "\r", "\x00", "\x7f", "\xff", " 0"} {
				ownText(t, s[:i]+put+s[i:])
				ownText(t, s[:i]+put+s[i+1:])
			}
		}
	}
}

func FuzzRead(f *testing.F) {
	for _, w := range written {
		f.Add(w.text)
	}
	f.Fuzz(ownText)
}
