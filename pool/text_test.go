package pool_test

import (
	"fmt"
	"slices"
	"strconv"
	"strings"
	"testing"

	"lammastide/api"
	"lammastide/pool"
)

// entry: what one text is in a pool's text.
func entry(s string) string { return strconv.Itoa(len(s)) + ":" + s + "\n" }

// sized: a well text of so many bytes, of more than two of the longest texts.
func sized(t *testing.T, size int) string {
	t.Helper()
	var all strings.Builder
	for i := 0; size-all.Len() > 2*api.MaxText; i++ {
		all.WriteString(entry(fmt.Sprintf("%04d", i) + strings.Repeat("x", api.MaxText-4)))
	}
	half := strings.Repeat("y", (size-all.Len())/2-len("9999:\n"))
	all.WriteString(entry(half))
	all.WriteString(entry(strings.Repeat("z", size-all.Len()-len("9999:\n"))))
	if all.Len() != size {
		t.Fatal(all.Len())
	}
	return all.String()
}

func TestText(t *testing.T) {
	for want, texts := range map[string][]string{
		"":                           nil,
		"0:\n":                       {""},
		"1:\n\n":                     {"\n"},
		"2:ab\n0:\n3:c\n:\n":         {"ab", "", "c\n:"},
		"0:\n2:ab\n3:c\n:\n":         {"", "ab", "c\n:"},
		"10:0123456789\n2:é\n":       {"0123456789", "é"},
		"4:1:a\n\n1:a\n2:\xff\x00\n": {"1:a\n", "a", "\xff\x00"},
	} {
		if s := poolOf(t, texts...).Text(); s != want {
			t.Errorf("%q: %q; want %q", texts, s, want)
		}
	}
}

func TestRead(t *testing.T) {
	for _, texts := range [][]string{nil, {""}, {"\n"}, {"a"}, {"ab", "", "c\n:"}, {"1:a\n", "a"}, oddTexts, numbered(api.MaxTexts)} {
		p := poolOf(t, texts...)
		q, err := pool.Read(p.Text())
		if err != nil {
			t.Fatalf("%.200q: %v", p.Text(), err)
		}
		holds(t, q, texts)
		if len(texts) == api.MaxTexts {
			continue
		}
		if n, err := q.Put("new"); n != len(texts) || err != nil {
			t.Error(n, err)
		}
		holds(t, p, texts)
	}
}

// refuses: Read tells a fault at this text, and no pool.
func refuses(t *testing.T, s string, at int, want error) {
	t.Helper()
	p, err := pool.Read(s)
	fault, is := err.(*api.Fault)
	if p != nil || !is || fault.At != at || fault.Err != want {
		t.Errorf("Read(%.80q) = %v, %v; want %v at %d", s, p, err, want, at)
	}
}

func TestReadRefusesTexts(t *testing.T) {
	for _, c := range []struct {
		s    string
		want error
	}{
		{"x", api.ErrText}, {"\n", api.ErrText}, {":", api.ErrText}, {":\n", api.ErrText}, {"x:\n", api.ErrText}, {"1", api.ErrText}, {"0\n", api.ErrText}, {"1a\n", api.ErrText}, {"1;a\n", api.ErrText},
		{"00:\n", api.ErrText}, {"01:a\n", api.ErrText}, {"-1:a\n", api.ErrText}, {"-0:\n", api.ErrText}, {"+1:a\n", api.ErrText}, {" 1:a\n", api.ErrText}, {"1 :a\n", api.ErrText}, {"0x1:a\n", api.ErrText}, {"１:a\n", api.ErrText}, {"\n1:a\n", api.ErrText},
		{"0:", api.ErrText}, {"1:", api.ErrText}, {"1:a", api.ErrText}, {"1:\n", api.ErrText}, {"2:a\n", api.ErrText}, {"9:a\n", api.ErrText}, {"10000:a\n", api.ErrText},
		{"0:a\n", api.ErrText}, {"1:ab\n", api.ErrText}, {"1:a\r\n", api.ErrText}, {"1:a\x00", api.ErrText}, {"1:a:", api.ErrText}, {"1:é\n", api.ErrText},
		{entry(strings.Repeat("x", 10001)), api.ErrBound}, {entry(strings.Repeat("x", 100000)), api.ErrBound}, {entry(strings.Repeat("x", api.MaxBytes/2)), api.ErrBound},
		{entry("p"), api.ErrExist}, {entry(""), api.ErrExist}, {entry("q\n"), api.ErrExist},
	} {
		if c.want != api.ErrExist {
			refuses(t, c.s, 0, c.want)
		}
		refuses(t, "1:p\n0:\n2:q\n\n"+c.s, 3, c.want)
	}
}

// TestReadBelievesTheSize: a text that is said to be too long is ErrBound, whatever is there of it; what says so is no number, if it has more than nine digits.
func TestReadBelievesTheSize(t *testing.T) {
	for _, behind := range []string{"", "a", "a\n", "\n", strings.Repeat("x", 10001), strings.Repeat("x", 10001) + "\n", strings.Repeat("x", 20000)} {
		for _, size := range []string{"10001", "10002", "99999", "100000", "1048577", "999999999"} {
			refuses(t, size+":"+behind, 0, api.ErrBound)
			refuses(t, "0:\n1:b\n"+size+":"+behind, 2, api.ErrBound)
		}
		for _, size := range []string{"1000000000", "1234567890", "9223372036854775807", "9223372036854775808", "18446744073709551617", strings.Repeat("9", 1000), "010001", "-10001", "10001x", "10001\n"} {
			refuses(t, size+":"+behind, 0, api.ErrText)
			refuses(t, "0:\n1:b\n"+size+":"+behind, 2, api.ErrText)
		}
	}
	refuses(t, "10001", 0, api.ErrText)
	refuses(t, "10000:"+strings.Repeat("x", 9999), 0, api.ErrText)
	refuses(t, "10000:"+strings.Repeat("x", 10000), 0, api.ErrText)
	refuses(t, "10000:"+strings.Repeat("x", 10001), 0, api.ErrText)
}

func TestReadRefusesWhatIsThere(t *testing.T) {
	refuses(t, "1:a\n1:a\n", 1, api.ErrExist)
	refuses(t, "0:\n0:\n", 1, api.ErrExist)
	refuses(t, "1:a\n1:b\n1:c\n1:a\n1:d\n", 3, api.ErrExist)
	long := strings.Repeat("x", api.MaxText)
	refuses(t, entry(long)+entry("x")+entry(long), 2, api.ErrExist)
	// Not, if it is not whole.
	refuses(t, "1:a\n1:a", 1, api.ErrText)
	refuses(t, "1:a\n1:ab\n", 1, api.ErrText)
}

func TestReadRefusesMany(t *testing.T) {
	full := poolOf(t, numbered(api.MaxTexts)...).Text()
	refuses(t, full+entry("x"), api.MaxTexts, api.ErrFull)
	refuses(t, full+entry(""), api.MaxTexts, api.ErrFull)
	refuses(t, full+entry("x")+"x", api.MaxTexts, api.ErrFull)
	// Ahead of that what is wrong with the text itself.
	refuses(t, full+entry("0"), api.MaxTexts, api.ErrExist)
	refuses(t, full+entry("999"), api.MaxTexts, api.ErrExist)
	refuses(t, full+"10001:", api.MaxTexts, api.ErrBound)
	refuses(t, full+"1:x", api.MaxTexts, api.ErrText)
	refuses(t, full+"\n", api.MaxTexts, api.ErrText)
}

func TestReadTellsTheFirst(t *testing.T) {
	refuses(t, "x1:a\n1:a\n", 0, api.ErrText)
	refuses(t, "1:a\n1:a\nx", 1, api.ErrExist)
	refuses(t, "1:a\nx\n1:a\n", 1, api.ErrText)
	refuses(t, "1:a\n10001:\n1:a\n", 1, api.ErrBound)
	refuses(t, "1:a\n1:a\n10001:", 1, api.ErrExist)
}

func TestReadRefusesLongTexts(t *testing.T) {
	most := sized(t, api.MaxBytes)
	p, err := pool.Read(most)
	if err != nil || p.Text() != most {
		t.Fatal(err)
	}
	// Bare, and ahead of what is wrong with a text.
	for _, s := range []string{sized(t, api.MaxBytes+1), most + "x", "x" + most, strings.Repeat("x", api.MaxBytes+1), strings.Repeat("0:\n", api.MaxBytes)} {
		if p, err := pool.Read(s); p != nil || err != api.ErrBound {
			t.Errorf("%d bytes: %v, %v", len(s), p, err)
		}
	}
	refuses(t, strings.Repeat("x", api.MaxBytes), 0, api.ErrText)
	refuses(t, strings.Repeat("9", api.MaxBytes), 0, api.ErrText)
}

// TestLongPools: a pool whose text is too long to be read is a pool all the same.
func TestLongPools(t *testing.T) {
	p, err := pool.Read(sized(t, api.MaxBytes))
	if err != nil {
		t.Fatal(err)
	}
	if n, err := p.Put("more"); n != p.Len()-1 || err != nil {
		t.Fatal(n, err)
	}
	s := p.Text()
	if s != sized(t, api.MaxBytes)+"4:more\n" || p.Copy().Text() != s {
		t.Error(len(s))
	}
	if q, err := pool.Read(s); q != nil || err != api.ErrBound {
		t.Error(err)
	}
}

// ownText: a text that is read is its pool's own.
func ownText(t *testing.T, s string) {
	t.Helper()
	p, err := pool.Read(s)
	if err != nil {
		if p != nil {
			t.Errorf("Read(%q) tells a pool beside %v", s, err)
		}
		return
	}
	if p.Text() != s {
		t.Errorf("Read(%q) is %q", s, p.Text())
	}
}

func TestWellTextsAreTheOnlyOnes(t *testing.T) {
	s := poolOf(t, slices.DeleteFunc(slices.Clone(oddTexts), func(s string) bool { return len(s) > 100 })...).Text() + entry(strings.Repeat("1:a\n", 4))
	ownText(t, s)
	for i := range len(s) {
		ownText(t, s[:i])
		ownText(t, s[i:])
		for _, put := range []string{"", " ", ":", "0", "1", "9", "-", "x", "\n", "\r", "\x00", "\xff", "0:\n"} {
			ownText(t, s[:i]+put+s[i:])
			ownText(t, s[:i]+put+s[i+1:])
		}
	}
}

func FuzzRead(f *testing.F) {
	f.Add("")
	f.Add("2:ab\n0:\n3:c\n:\n")
	f.Add("1:a\n1:a\n")
	f.Add("1:a\n10001:")
	f.Fuzz(ownText)
}
