package pack_test

import (
	"fmt"
	"math/big"
	"math/rand"
	"regexp"
	"slices"
	"strconv"
	"strings"
	"testing"

	"lammastide/api"
	"lammastide/pack"
	"lammastide/pool"
)

var (
	wholeForm = regexp.MustCompile(`^=(0|[1-9][0-9]*):`)
	deltaForm = regexp.MustCompile(`^~(0|[1-9][0-9]*):(0|[1-9][0-9]*):`)
)

// poolOf texts, none of which is another one.
func poolOf(t *testing.T, texts ...string) *pool.Pool {
	t.Helper()
	p := pool.New()
	for i, s := range texts {
		if n, err := p.Put(s); n != i || err != nil {
			t.Fatalf("%.40q: %d, %v; want %d", s, n, err, i)
		}
	}
	return p
}

// numbered: so many texts, their numbers written out.
func numbered(many int) []string {
	var texts []string
	for i := range many {
		texts = append(texts, strconv.Itoa(i))
	}
	return texts
}

// whole: what a whole text is in a pack.
func whole(s string) string { return "=" + strconv.Itoa(len(s)) + ":" + s + "\n" }

// delta: what a delta is in a pack.
func delta(base int, d string) string { return fmt.Sprintf("~%d:%d:%s\n", base, len(d), d) }

// plainText: the first text of a pack by the words of P111, with the texts ahead of it, and what stands behind it.
func plainText(ahead []string, s string) (string, string, error) {
	m, size := wholeForm.FindStringSubmatch(s), 1
	if m == nil {
		m, size = deltaForm.FindStringSubmatch(s), 2
	}
	if m == nil {
		return "", "", api.ErrText
	}
	text, behind, is := takes(s[len(m[0]):], number(m[size]))
	if !is || !strings.HasPrefix(behind, "\n") {
		return "", "", api.ErrText
	}
	if s[0] == '~' {
		base := number(m[1])
		if base.Cmp(big.NewInt(int64(len(ahead)))) >= 0 {
			return "", "", api.ErrNone
		}
		made, err := plainApply(ahead[base.Int64()], text)
		if err != nil {
			return "", "", err
		}
		text = made
	}
	switch {
	case len(text) > api.MaxText:
		return "", "", api.ErrBound
	case slices.Contains(ahead, text):
		return "", "", api.ErrExist
	case len(ahead) == api.MaxTexts:
		return "", "", api.ErrFull
	}
	return text, behind[1:], nil
}

// plainUnpack: the texts of a pack by the words of P111, up to the first that is not well.
func plainUnpack(s string) ([]string, error) {
	var texts []string
	for s != "" {
		text, behind, err := plainText(texts, s)
		if err != nil {
			return texts, err
		}
		texts, s = append(texts, text), behind
	}
	return texts, nil
}

// holds just these texts.
func holds(t *testing.T, p *pool.Pool, texts []string) {
	t.Helper()
	if p.Len() != len(texts) {
		t.Fatalf("%d texts; want %d", p.Len(), len(texts))
	}
	for i, want := range texts {
		if s, err := p.Get(i); s != want || err != nil {
			t.Fatalf("%d: %.40q, %v; want %.40q", i, s, err, want)
		}
		if n, is := p.Find(want); n != i || !is {
			t.Fatalf("%.40q: %d, %v; want %d", want, n, is, i)
		}
	}
}

// refuses: Unpack tells a fault at this text, and no pool.
func refuses(t *testing.T, s string, at int, want error) {
	t.Helper()
	p, err := pack.Unpack(s)
	fault, is := err.(*api.Fault)
	if p != nil || !is || fault.At != at || fault.Err != want {
		t.Errorf("Unpack(%.80q) = %v, %v; want %v at %d", s, p, err, want, at)
	}
}

// unpacks to just these texts.
func unpacks(t *testing.T, s string, texts ...string) {
	t.Helper()
	p, err := pack.Unpack(s)
	if err != nil {
		t.Fatalf("%.80q: %v", s, err)
	}
	holds(t, p, texts)
}

// unpacksPlainly: as its words say.
func unpacksPlainly(t *testing.T, s string) {
	t.Helper()
	texts, err := plainUnpack(s)
	if err != nil {
		refuses(t, s, len(texts), err)
		return
	}
	unpacks(t, s, texts...)
}

// packs: the pack of these texts is well made, not too long, the same again, and they come out of it.
func packs(t *testing.T, texts ...string) string {
	t.Helper()
	p := poolOf(t, texts...)
	s := pack.Pack(p)
	holds(t, p, texts)
	if most := len(p.Text()) + p.Len(); len(s) > most {
		t.Errorf("%d bytes; want at most %d", len(s), most)
	}
	if l, err := plainUnpack(s); err != nil || !slices.Equal(l, texts) {
		t.Fatalf("%.200q holds %d texts, %v; want %d", s, len(l), err, len(texts))
	}
	if len(s) > api.MaxBytes {
		return s
	}
	unpacks(t, s, texts...)
	q, _ := pack.Unpack(s)
	if pack.Pack(p) != s || pack.Pack(p.Copy()) != s || pack.Pack(q) != s {
		t.Error("another pack of the same texts")
	}
	return s
}

func TestPack(t *testing.T) {
	for _, texts := range [][]string{
		nil, {""}, {"\n"}, {"a"}, {"ab", "", "c\n:"}, {"=1:a\n", "a", "~0:1:x\n"}, {"", "a", "aa", "aaa"}, oddTexts, numbered(100),
	} {
		packs(t, texts...)
		turned := slices.Clone(texts)
		slices.Reverse(turned)
		packs(t, turned...)
	}
	for want, texts := range map[string][]string{"": nil, "=0:\n": {""}, "=1:\n\n": {"\n"}, "=2:ab\n": {"ab"}} {
		if s := packs(t, texts...); s != want {
			t.Errorf("%q: %q; want %q", texts, s, want)
		}
	}
}

func TestPackIsFull(t *testing.T) {
	packs(t, numbered(api.MaxTexts)...)
	runs := []string{}
	for i := range api.MaxTexts {
		runs = append(runs, strings.Repeat("y", i))
	}
	packs(t, runs...)
	slices.Reverse(runs)
	packs(t, runs...)
}

// TestPackIsShort where texts are alike, be the one that a text is alike the last one, or one far ahead.
func TestPackIsShort(t *testing.T) {
	random := rand.New(rand.NewSource(14))
	kinds := []string{}
	for range 50 {
		kinds = append(kinds, someBytes(random, 2000))
	}
	texts := slices.Clone(kinds)
	for i := range 500 {
		kind := random.Intn(len(kinds))
		at := random.Intn(1900)
		kinds[kind] = kinds[kind][:at] + fmt.Sprint(i) + kinds[kind][at+3:]
		texts = append(texts, kinds[kind])
	}
	if s := packs(t, texts...); len(s) > 50*2010+500*60 {
		t.Errorf("%d bytes of %d", len(s), len(strings.Join(texts, "")))
	}
}

// TestLongPools: what is too long as a text may be short enough as a pack.
func TestLongPools(t *testing.T) {
	random := rand.New(rand.NewSource(15))
	text := someBytes(random, api.MaxText)
	texts := []string{text}
	for range api.MaxTexts - 1 {
		at := random.Intn(api.MaxText)
		text = text[:at] + string([]byte{text[at] + 1}) + text[at+1:]
		texts = append(texts, text)
	}
	if s := packs(t, texts...); len(s) > api.MaxBytes/10 {
		t.Errorf("%d bytes", len(s))
	}
	if _, err := pool.Read(poolOf(t, texts...).Text()); err != api.ErrBound {
		t.Error(err)
	}
}

// TestTooLongPools: texts that are not alike have no pack that is short enough; it is written all the same.
func TestTooLongPools(t *testing.T) {
	random := rand.New(rand.NewSource(16))
	texts := []string{}
	for range api.MaxBytes/api.MaxText + 1 {
		texts = append(texts, someBytes(random, api.MaxText))
	}
	s := packs(t, texts...)
	if p, err := pack.Unpack(s); p != nil || err != api.ErrBound {
		t.Error(p, err)
	}
}

func TestUnpack(t *testing.T) {
	unpacks(t, "")
	unpacks(t, "=0:\n", "")
	unpacks(t, "=1:\n\n", "\n")
	unpacks(t, "=2:ab\n~0:10:c1,1;i1:x;\n~1:5:c0,1;\n", "ab", "bx", "b")
	unpacks(t, "=1:a\n~0:0:\n", "a", "")
	unpacks(t, "=0:\n~0:5:i1:a;\n", "", "a")
	unpacks(t, "=1:a\n"+delta(0, "i1:\n;")+delta(0, "i1:~;c0,1;")+whole("=1:a\n"), "a", "\n", "~a", "=1:a\n")
	texts := numbered(api.MaxTexts)
	s := ""
	for i, text := range texts {
		if s += whole(text); i == 500 {
			s = s[:len(s)-len(whole(text))] + delta(499, "i3:500;")
		}
	}
	unpacks(t, s, texts...)
	// Each of the last one; the number of the text ahead has more digits in time.
	s = whole("x")
	texts = []string{"x"}
	for i := range api.MaxTexts - 1 {
		s += delta(i, fmt.Sprintf("c0,%d;i1:x;", i+1))
		texts = append(texts, strings.Repeat("x", i+2))
	}
	unpacks(t, s, texts...)
}

func TestUnpackRefusesTexts(t *testing.T) {
	for _, c := range []struct {
		s    string
		want error
	}{
		{"x", api.ErrText}, {"\n", api.ErrText}, {" ", api.ErrText}, {":", api.ErrText}, {"0:\n", api.ErrText}, {"1:a\n", api.ErrText}, {"=", api.ErrText}, {"=\n", api.ErrText}, {"=:", api.ErrText}, {"=:\n", api.ErrText}, {"=x:\n", api.ErrText}, {"=1", api.ErrText}, {"=0\n", api.ErrText}, {"=0:", api.ErrText}, {"=1:", api.ErrText}, {"=1:z", api.ErrText}, {"=1:\n", api.ErrText}, {"=2:z\n", api.ErrText}, {"=1:zz\n", api.ErrText}, {"=0:z\n", api.ErrText}, {"=1:z\r\n", api.ErrText}, {"=1:z:", api.ErrText}, {"=1:é\n", api.ErrText},
		{"=00:\n", api.ErrText}, {"=01:z\n", api.ErrText}, {"=-1:z\n", api.ErrText}, {"=-0:\n", api.ErrText}, {"=+1:z\n", api.ErrText}, {"= 1:z\n", api.ErrText}, {"=1 :z\n", api.ErrText}, {"==1:z\n", api.ErrText}, {" =1:z\n", api.ErrText}, {"\n=1:z\n", api.ErrText}, {"=１:z\n", api.ErrText}, {"=0:1:z\n", api.ErrText},
		{"~", api.ErrText}, {"~\n", api.ErrText}, {"~:", api.ErrText}, {"~::", api.ErrText}, {"~::\n", api.ErrText}, {"~0", api.ErrText}, {"~0:", api.ErrText}, {"~0:\n", api.ErrText}, {"~0::\n", api.ErrText}, {"~:0:\n", api.ErrText}, {"~x:0:\n", api.ErrText}, {"~0:x:\n", api.ErrText}, {"~0:0:", api.ErrText}, {"~0:1:\n", api.ErrText}, {"~0:0:x\n", api.ErrText}, {"~0:5:i1:z;", api.ErrText}, {"~0:4:i1:z;\n", api.ErrText}, {"~0:6:i1:z;\n", api.ErrText},
		{"~00:5:i1:z;\n", api.ErrText}, {"~0:05:i1:z;\n", api.ErrText}, {"~-1:5:i1:z;\n", api.ErrText}, {"~-0:5:i1:z;\n", api.ErrText}, {"~+0:5:i1:z;\n", api.ErrText}, {"~0:-5:i1:z;\n", api.ErrText}, {"~0:+5:i1:z;\n", api.ErrText}, {"~ 0:5:i1:z;\n", api.ErrText}, {"~0 :5:i1:z;\n", api.ErrText}, {"~~0:5:i1:z;\n", api.ErrText}, {"~0,5:i1:z;\n", api.ErrText}, {"~0:5,i1:z;\n", api.ErrText},
		{"=1000000000:z\n", api.ErrText}, {"=99999999999999999999:z\n", api.ErrText}, {"=18446744073709551617:z\n", api.ErrText}, {"~0:1000000000:i1:z;\n", api.ErrText}, {"~0:99999999999999999999:i1:z;\n", api.ErrText}, {"=" + strings.Repeat("9", 1000) + ":z\n", api.ErrText},
		// A size is not taken at its word: what is not there is not so made, be it said to be too long or not.
		{"=10001:", api.ErrText}, {"=10001:z\n", api.ErrText}, {"=10001:" + strings.Repeat("x", 10001), api.ErrText}, {whole(strings.Repeat("x", 10001)), api.ErrBound}, {whole(strings.Repeat("x", 100000)), api.ErrBound}, {whole(strings.Repeat("x", api.MaxBytes/2)), api.ErrBound},
	} {
		if c.s[0] != '~' {
			refuses(t, c.s, 0, c.want)
		}
		refuses(t, "=1:p\n=0:\n"+c.s, 2, c.want)
		refuses(t, "=1:p\n~0:0:\n~1:6:i2:qq;\n"+c.s, 3, c.want)
	}
}

func TestUnpackRefusesBases(t *testing.T) {
	for _, base := range []string{"0", "1", "9", "10", "999", "1000", "999999999", "1000000000", "9223372036854775807", "9223372036854775808", "18446744073709551616", "18446744073709551617", strings.Repeat("9", 1000)} {
		refuses(t, "~"+base+":0:\n", 0, api.ErrNone)
		refuses(t, "~"+base+":5:i1:z;\n", 0, api.ErrNone)
		// Ahead of what is wrong with the delta, behind what is wrong around it.
		refuses(t, "~"+base+":1:x\n", 0, api.ErrNone)
		refuses(t, "~"+base+":5:c9,9;\n", 0, api.ErrNone)
		refuses(t, "~"+base+":1:x", 0, api.ErrText)
		refuses(t, "~"+base+":01:x\n", 0, api.ErrText)
	}
	refuses(t, "=1:a\n~1:5:c0,1;\n", 1, api.ErrNone)
	refuses(t, "=1:a\n~1:5:i1:z;\n=1:b\n", 1, api.ErrNone)
	refuses(t, "=1:a\n=1:b\n~2:5:i1:z;\n", 2, api.ErrNone)
	unpacks(t, "=1:a\n=1:b\n~1:5:i1:z;\n", "a", "b", "z")
}

func TestUnpackRefusesDeltas(t *testing.T) {
	long := strings.Repeat("x", api.MaxText)
	for _, c := range []struct {
		d    string
		want error
	}{
		{"x", api.ErrText}, {"\n", api.ErrText}, {"c0,0;", api.ErrText}, {"c0,1", api.ErrText}, {"i1:z", api.ErrText}, {"i01:z;", api.ErrText}, {"c0,1;x", api.ErrText}, {"c99999,1;x", api.ErrText},
		{"c10000,1;", api.ErrBound}, {"c0,10001;", api.ErrBound}, {"c0,10000;i1:z;", api.ErrBound}, {"c0,9999;c0,2;", api.ErrBound}, {"c99999999999999999999,1;", api.ErrBound},
		{"c0,10000;", api.ErrExist}, {"c1,9999;i1:x;", api.ErrExist}, {"i1:p;", api.ErrExist}, {"", api.ErrExist},
	} {
		refuses(t, whole(long)+"=1:p\n=0:\n"+delta(0, c.d), 3, c.want)
		refuses(t, whole(long)+"=1:p\n=0:\n"+delta(0, c.d)+"x", 3, c.want)
	}
	unpacks(t, whole(long)+delta(0, "i1:z;c1,9999;"), long, "z"+long[1:])
}

func TestUnpackRefusesWhatIsThere(t *testing.T) {
	refuses(t, "=1:a\n=1:a\n", 1, api.ErrExist)
	refuses(t, "=0:\n=0:\n", 1, api.ErrExist)
	refuses(t, "=1:a\n~0:5:c0,1;\n", 1, api.ErrExist)
	refuses(t, "=0:\n~0:0:\n", 1, api.ErrExist)
	refuses(t, "=1:a\n=1:b\n=1:c\n=1:a\n=1:d\n", 3, api.ErrExist)
	refuses(t, "=1:a\n=1:b\n~0:5:i1:b;\n", 2, api.ErrExist)
	refuses(t, "=1:a\n=1:a", 1, api.ErrText)
}

func TestUnpackRefusesMany(t *testing.T) {
	full := ""
	for _, s := range numbered(api.MaxTexts) {
		full += whole(s)
	}
	refuses(t, full+whole("x"), api.MaxTexts, api.ErrFull)
	refuses(t, full+whole(""), api.MaxTexts, api.ErrFull)
	refuses(t, full+delta(999, "i1:x;"), api.MaxTexts, api.ErrFull)
	refuses(t, full+whole("x")+"x", api.MaxTexts, api.ErrFull)
	// Ahead of that what is wrong with the text itself, or that it is there.
	refuses(t, full+whole("0"), api.MaxTexts, api.ErrExist)
	refuses(t, full+delta(999, "c0,2;"), api.MaxTexts, api.ErrExist)
	refuses(t, full+whole(strings.Repeat("x", api.MaxText+1)), api.MaxTexts, api.ErrBound)
	refuses(t, full+delta(999, "c0,4;"), api.MaxTexts, api.ErrBound)
	refuses(t, full+delta(1000, ""), api.MaxTexts, api.ErrNone)
	refuses(t, full+"=1:x", api.MaxTexts, api.ErrText)
}

func TestUnpackTellsTheFirst(t *testing.T) {
	refuses(t, "x=1:a\n=1:a\n", 0, api.ErrText)
	refuses(t, "=1:a\n=1:a\nx", 1, api.ErrExist)
	refuses(t, "=1:a\nx\n=1:a\n", 1, api.ErrText)
	refuses(t, "=1:a\n~0:5:c1,1;\n=1:a\n", 1, api.ErrBound)
	refuses(t, "=1:a\n~7:0:\n=1:a\n", 1, api.ErrNone)
}

// sized: a well pack of so many bytes, of more than two of the longest texts.
func sized(t *testing.T, size int) string {
	t.Helper()
	var all strings.Builder
	for i := 0; size-all.Len() > 2*api.MaxText; i++ {
		all.WriteString(whole(fmt.Sprintf("%04d", i) + strings.Repeat("x", api.MaxText-4)))
	}
	all.WriteString(whole(strings.Repeat("y", (size-all.Len())/2-len("=9999:\n"))))
	all.WriteString(whole(strings.Repeat("z", size-all.Len()-len("=9999:\n"))))
	if all.Len() != size {
		t.Fatal(all.Len())
	}
	return all.String()
}

func TestUnpackRefusesLongPacks(t *testing.T) {
	most := sized(t, api.MaxBytes)
	texts, err := plainUnpack(most)
	if err != nil {
		t.Fatal(err)
	}
	unpacks(t, most, texts...)
	// Bare, and ahead of what is wrong with a text.
	for _, s := range []string{sized(t, api.MaxBytes+1), most + "x", "x" + most, strings.Repeat("x", api.MaxBytes+1), strings.Repeat("=0:\n", api.MaxBytes)} {
		if p, err := pack.Unpack(s); p != nil || err != api.ErrBound {
			t.Errorf("%d bytes: %v, %v", len(s), p, err)
		}
	}
	refuses(t, strings.Repeat("x", api.MaxBytes), 0, api.ErrText)
	refuses(t, "="+strings.Repeat("9", api.MaxBytes-1), 0, api.ErrText)
}

// TestUnpackedPoolsAreTheirOwn: what is put into one shows in no other one.
func TestUnpackedPoolsAreTheirOwn(t *testing.T) {
	a, _ := pack.Unpack("=1:a\n~0:6:i2:bb;\n")
	b, _ := pack.Unpack("=1:a\n~0:6:i2:bb;\n")
	if n, err := a.Put("of the first"); n != 2 || err != nil {
		t.Fatal(n, err)
	}
	holds(t, b, []string{"a", "bb"})
	holds(t, a, []string{"a", "bb", "of the first"})
}

// TestPacksAreAsTheirWordsSay: a well pack, with a byte or more changed anywhere.
func TestPacksAreAsTheirWordsSay(t *testing.T) {
	for _, s := range []string{
		"=2:ab\n~0:10:c1,1;i1:x;\n~1:5:c0,1;\n=0:\n",
		whole("hello, world") + delta(0, "c7,5;i2:, ;c0,5;i1:\n;") + whole("=1:a\n") + delta(2, "c3,1;") + delta(1, "c0,1;"),
	} {
		if _, err := plainUnpack(s); err != nil {
			t.Fatal(err)
		}
		for i := range len(s) + 1 {
			unpacksPlainly(t, s[:i])
			unpacksPlainly(t, s[i:])
			for _, put := range []string{"", " ", ",", ":", ";", "0", "1", "9", "-", "+", "=", "~", "c", "i", "x", "\n", "\r", "\x00", "\xff", "=0:\n", "~0:0:\n", "~1:5:i1:q;\n", "99999999999999999999"} {
				unpacksPlainly(t, s[:i]+put+s[i:])
				unpacksPlainly(t, s[:i]+put+s[min(i+1, len(s)):])
			}
		}
	}
}

// TestWhatWasPackedIsUnpacked: P112, over pools whose texts are made of one another, more or less.
func TestWhatWasPackedIsUnpacked(t *testing.T) {
	random := rand.New(rand.NewSource(17))
	for range 60 {
		texts := []string{}
		for range random.Intn(150) {
			text := someWords(random)
			if len(texts) > 0 && random.Intn(5) > 0 {
				text = edited(random, texts[random.Intn(len(texts))])
			}
			if !slices.Contains(texts, text) {
				texts = append(texts, text)
			}
		}
		s := packs(t, texts...)
		if len(s) > api.MaxBytes {
			t.Errorf("%d bytes: too many to tell", len(s))
		}
	}
}

func FuzzUnpack(f *testing.F) {
	f.Add("")
	f.Add("=2:ab\n~0:10:c1,1;i1:x;\n~1:5:c0,1;\n")
	f.Add("=1:a\n~0:5:c0,1;\n")
	f.Add("=1:a\n~7:0:\n")
	f.Fuzz(unpacksPlainly)
}

func FuzzPack(f *testing.F) {
	f.Add("hello world|hello, world|world", "|")
	f.Add("aaaaaaaaaaaaaaaaaaaabaaaaaaaaaaaaaaaaaaaabaaaaaaaaaaaaaaaaaaaaaa", "b")
	f.Fuzz(func(t *testing.T, all, between string) {
		texts := []string{}
		for _, s := range strings.Split(all, between) {
			if !slices.Contains(texts, s) && len(s) <= api.MaxText && len(texts) < api.MaxTexts {
				texts = append(texts, s)
			}
		}
		packs(t, texts...)
	})
}
