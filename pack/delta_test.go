package pack_test

import (
	"fmt"
	"math/big"
	"math/rand"
	"regexp"
	"strconv"
	"strings"
	"testing"

	"lammastide/api"
	"lammastide/pack"
)

var (
	copyForm = regexp.MustCompile(`^c(0|[1-9][0-9]*),([1-9][0-9]*);`)
	ownForm  = regexp.MustCompile(`^i([1-9][0-9]*):`)
)

// oddTexts: none is another one.
var oddTexts = []string{
	"", "a", "hello", "hello world", "help, world", "\n", "\x00", "\xff\xfe", "é", ":", ";", "c0,1;", "i1:a;", "c0,1;i1:a;c0,1;", "=1:a\n", "~0:5:c0,1;\n", "0123456789",
	strings.Repeat("ab", 50), strings.Repeat("ab", 49) + "x", strings.Repeat("x", 100), strings.Repeat("x", 1000), strings.Repeat("i1:;;", 30),
	strings.Repeat("x", api.MaxText-1), strings.Repeat("x", api.MaxText), "y" + strings.Repeat("x", api.MaxText-1), strings.Repeat("x", api.MaxText/2) + "y" + strings.Repeat("x", api.MaxText/2-1),
	strings.Repeat("fair|The Fair|2000-01-05|3|weekly 1||\n", 50), strings.Repeat("fair|The Fair|2000-01-05|3|weekly 1||\n", 49) + "g|Market|2000-01-08|1|once||\n",
}

// number of however many digits.
func number(s string) *big.Int {
	n, _ := new(big.Int).SetString(s, 10)
	return n
}

// takes so many bytes of s; false: there are fewer.
func takes(s string, size *big.Int) (string, string, bool) {
	if size.Cmp(big.NewInt(int64(len(s)))) > 0 {
		return "", "", false
	}
	return s[:size.Int64()], s[size.Int64():], true
}

// plainMake: what a delta makes, by the words of P110, but for MaxText. ErrBound: bytes that a has not.
func plainMake(a, d string) (string, error) {
	made, has := "", true
	for d != "" {
		if m := copyForm.FindStringSubmatch(d); m != nil {
			_, behind, isPlace := takes(a, number(m[1]))
			part, _, isThere := takes(behind, number(m[2]))
			has = has && isPlace && isThere
			made += part
			d = d[len(m[0]):]
			continue
		}
		m := ownForm.FindStringSubmatch(d)
		if m == nil {
			return "", api.ErrText
		}
		part, behind, is := takes(d[len(m[0]):], number(m[1]))
		if !is || !strings.HasPrefix(behind, ";") {
			return "", api.ErrText
		}
		made += part
		d = behind[1:]
	}
	if !has {
		return "", api.ErrBound
	}
	return made, nil
}

// plainApply: P110 by its words.
func plainApply(a, d string) (string, error) {
	made, err := plainMake(a, d)
	if err == nil && len(made) > api.MaxText {
		return "", api.ErrBound
	}
	return made, err
}

// applies: just this is made, or told, bare.
func applies(t *testing.T, a, d, want string, wantErr error) {
	t.Helper()
	if s, err := pack.Apply(a, d); s != want || err != wantErr {
		t.Errorf("Apply(%.40q, %.80q) = %.80q, %v; want %.80q, %v", a, d, s, err, want, wantErr)
	}
}

// appliesPlainly: as its words say.
func appliesPlainly(t *testing.T, a, d string) {
	t.Helper()
	want, err := plainApply(a, d)
	applies(t, a, d, want, err)
}

// isDelta: Delta's answer is one from a to b, and is not too long.
func isDelta(t *testing.T, a, b string) {
	t.Helper()
	d := pack.Delta(a, b)
	if s, err := plainMake(a, d); s != b || err != nil {
		t.Errorf("Delta(%.40q, %.40q) = %.80q makes %.40q, %v", a, b, d, s, err)
	}
	most := len("i" + strconv.Itoa(len(b)) + ":" + b + ";")
	if b == "" {
		most = 0
	}
	if len(d) > most {
		t.Errorf("Delta(%.40q, %.40q) has %d bytes; want at most %d", a, b, len(d), most)
	}
	if again := pack.Delta(strings.Clone(a), strings.Clone(b)); again != d {
		t.Errorf("Delta(%.40q, %.40q) is another one the second time", a, b)
	}
	if len(b) <= api.MaxText {
		applies(t, a, d, b, nil)
	} else {
		applies(t, a, d, "", api.ErrBound)
	}
}

func TestApply(t *testing.T) {
	for _, c := range []struct{ a, d, want string }{
		{"", "", ""}, {"hello", "", ""}, {"hello", "c0,5;", "hello"}, {"hello", "c4,1;", "o"}, {"hello", "c0,1;", "h"}, {"hello", "c1,3;i2:ab;c4,1;", "ellabo"},
		{"hello", "c0,5;c0,5;", "hellohello"}, {"hello", "c4,1;c3,1;c0,2;", "olhe"}, {"", "i1:a;", "a"}, {"", "i3:a;b;", "a;b"}, {"", "i1:;;", ";"}, {"", "i1:\n;i1:\x00;i1:\xff;", "\n\x00\xff"},
		{"", "i2:é;", "é"}, {"é", "c1,1;", "\xa9"}, {"", "i10:0123456789;", "0123456789"}, {"0123456789ab", "c10,2;c0,10;", "ab0123456789"}, {"x", "i5:c0,1;;c0,1;", "c0,1;x"}, {"x", "i1:a;i1:b;", "ab"},
	} {
		applies(t, c.a, c.d, c.want, nil)
		appliesPlainly(t, c.a, c.d)
	}
}

func TestApplyRefusesWhatIsNone(t *testing.T) {
	for _, d := range []string{
		"x", "c", "i", ";", ",", ":", "0", "\n", " ", "c;", "c,;", "c0;", "c0,;", "c,1;", "c0,1", "c0,0;", "c5,0;", "c0,00;", "c00,1;", "c01,1;", "c0,01;", "c-1,1;", "c0,-1;", "c-0,1;", "c+0,1;", "c0,+1;", "c 0,1;", "c0, 1;", "c0,1 ;", "c0,1:", "c0:1;", "c0,1,1;", "c0,1;;", "c0x1,1;", "c1_0,1;", "c１,1;", "cx,1;", "c0,x;", "C0,1;",
		"i;", "i:", "i:;", "i0:;", "i1:;", "i1:a", "i2:ab", "i2:a;", "i1:ab;", "i1:a:", "i01:a;", "i00:;", "i-1:a;", "i+1:a;", "i 1:a;", "i1 :a;", "i1,a;", "ia;", "i1a;", "I1:a;", "i1:é;", "i9:a;", "i1:a;;", "i1:a;x", "i1:a;\n", "\ni1:a;", "i999999999:a;", "i99999999999999999999:a;", "i18446744073709551617:a;",
		"c99999999999999999999x,1;", "c0,99999999999999999999x;", "c099999999999999999999,1;", "c-99999999999999999999,1;", "i" + strings.Repeat("9", 1000) + ":a;",
	} {
		applies(t, "hello", d, "", api.ErrText)
		applies(t, "hello", "c0,1;i1:a;"+d, "", api.ErrText)
		// Also where bytes are asked for that are not there.
		applies(t, "hello", "c9,9;"+d, "", api.ErrText)
		applies(t, "hello", "c0,6;c0,1;"+d, "", api.ErrText)
		appliesPlainly(t, "hello", d)
	}
}

func TestApplyRefusesWhatIsNotThere(t *testing.T) {
	for _, d := range []string{"c5,1;", "c0,6;", "c4,2;", "c1,5;", "c6,1;", "c999999999,1;", "c0,999999999;", "c1000000000,1;", "c1,9223372036854775807;", "c9223372036854775807,1;", "c9223372036854775807,9223372036854775807;", "c9223372036854775808,1;", "c0,9223372036854775808;", "c18446744073709551616,1;", "c1,18446744073709551615;", "c" + strings.Repeat("9", 1000) + ",1;", "c0," + strings.Repeat("9", 1000) + ";"} {
		applies(t, "hello", d, "", api.ErrBound)
		applies(t, "hello", "i1:a;"+d+"c0,1;", "", api.ErrBound)
		appliesPlainly(t, "hello", d)
	}
	applies(t, "", "c0,1;", "", api.ErrBound)
	applies(t, "", "c1,1;", "", api.ErrBound)
}

func TestApplyRefusesLongTexts(t *testing.T) {
	long := strings.Repeat("x", api.MaxText)
	applies(t, long, "c0,10000;", long, nil)
	applies(t, long, "c0,10000;c0,1;", "", api.ErrBound)
	applies(t, long, "c0,9999;c0,1;", long, nil)
	applies(t, long, "i1:x;c0,9999;", long, nil)
	applies(t, long, "i1:x;c0,10000;", "", api.ErrBound)
	applies(t, "", "i10000:"+long+";", long, nil)
	applies(t, "", "i10001:x"+long+";", "", api.ErrBound)
	applies(t, "", "i5000:"+long[:5000]+";i5000:"+long[:5000]+";", long, nil)
	applies(t, "", "i5000:"+long[:5000]+";i5001:"+long[:5001]+";", "", api.ErrBound)
	applies(t, "x", strings.Repeat("c0,1;", api.MaxText), long, nil)
	applies(t, "x", strings.Repeat("c0,1;", api.MaxText+1), "", api.ErrBound)
	// What is too long stays so, and is a delta or none all the same.
	applies(t, long, "c0,10000;c0,10000;i1:x;", "", api.ErrBound)
	applies(t, long, "c0,10000;c0,10000;x", "", api.ErrText)
	// The first text may be of any length.
	applies(t, long+"hello", "c10000,5;c9999,1;", "hellox", nil)
	applies(t, long+"hello", "c0,10001;", "", api.ErrBound)
}

// TestDeltasAreAsTheirWordsSay: a well delta, with a byte or more changed anywhere.
func TestDeltasAreAsTheirWordsSay(t *testing.T) {
	for _, d := range []string{"c1,3;i2:ab;c4,1;", "i3:a;b;c0,12;i12:c0,1;i1:c0,1;;c10,2;", "c9,1;i9:123456789;c11,1;", "c999,9999;i1:;;"} {
		for i := range len(d) + 1 {
			appliesPlainly(t, "hello, world", d[:i])
			appliesPlainly(t, "hello, world", d[i:])
			for _, put := range []string{"", " ", ",", ":", ";", "0", "1", "9", "-", "+", "c", "i", "x", "\n", "\x00", "\xff", "c0,1;", "i1:c;", "99999999999999999999"} {
				appliesPlainly(t, "hello, world", d[:i]+put+d[i:])
				appliesPlainly(t, "hello, world", d[:i]+put+d[min(i+1, len(d)):])
			}
		}
	}
}

func TestDelta(t *testing.T) {
	for _, a := range oddTexts {
		for _, b := range oddTexts {
			isDelta(t, a, b)
		}
	}
	if d := pack.Delta("hello", ""); d != "" {
		t.Errorf("%q", d)
	}
}

// TestDeltaOfLongTexts: neither text has a bound.
func TestDeltaOfLongTexts(t *testing.T) {
	random := rand.New(rand.NewSource(11))
	long := someBytes(random, 5*api.MaxText)
	for _, a := range []string{"", "hello", long, strings.Repeat("x", 30000)} {
		for _, b := range []string{long, long[1:], long[:api.MaxText+1], long[:len(long)-1] + "x", long + long, strings.Repeat("x", 40000), strings.Repeat("xxxxxxxxx"+long[:1], 4000)} {
			isDelta(t, a, b)
		}
	}
}

// TestDeltaIsNeverTooLong: a short piece in the middle of what is new, where a copy is just worth it or just not.
func TestDeltaIsNeverTooLong(t *testing.T) {
	random := rand.New(rand.NewSource(18))
	a := someBytes(random, 2000)
	for _, ahead := range []int{0, 1, 9, 50, 500, 4000} {
		for _, behind := range []int{0, 1, 9, 50, 500, 4000} {
			for _, at := range []int{0, 8, 16, 104, 1000} {
				for size := range 30 {
					isDelta(t, a, someBytes(random, ahead)+a[at:at+size]+someBytes(random, behind))
				}
			}
		}
	}
}

// TestDeltaCopies: without it no pool that is longer than a pack may be could be unpacked.
func TestDeltaCopies(t *testing.T) {
	random := rand.New(rand.NewSource(12))
	a := someBytes(random, api.MaxText-600)
	a = a[:200] + a[5000:5600] + a[200:]
	for _, c := range []struct {
		b    string
		most string
	}{
		{a, "c0,10000;"},
		{a[:5000], "c0,5000;"},
		{a[5000:], "c5000,5000;"},
		{a[2345:6789], "c2345,4444;"},
		{a[5001:] + a[:5001], "c5001,4999;c0,5001;"},
		{a[:4999] + a[:4999], "c0,4999;c0,4999;"},
		{a[:3333] + a[3334:], "c0,3333;c3334,6666;"},
		{a[:3333] + "x" + a[3333:], "c0,3333;i1:x;c3333,6667;"},
		{a[:3333] + "xyz" + a[3336:], "c0,3333;i3:xyz;c3336,6664;"},
		{"xyz" + a[3:9997] + "xyz", "i3:xyz;c3,9994;i3:xyz;"},
		// A piece that is there twice, with more of it behind the one, or the other.
		{"xyz" + a[200:1500], "i3:xyz;c200,1300;"},
		{"xyz" + a[5600:7000], "i3:xyz;c5600,1400;"},
	} {
		isDelta(t, a, c.b)
		// A byte at an edge may be the same by chance, and so stand on either side of it.
		if d := pack.Delta(a, c.b); len(d) > len(c.most)+3 {
			t.Errorf("%.80q; want one like %q", d, c.most)
		}
	}
}

// someBytes: no piece of them comes again.
func someBytes(random *rand.Rand, size int) string {
	b := make([]byte, size)
	random.Read(b)
	return string(b)
}

// edited: some of it anew, away, or again.
func edited(random *rand.Rand, s string) string {
	for range random.Intn(4) {
		from := random.Intn(len(s) + 1)
		to := from + random.Intn(len(s)-from+1)
		switch random.Intn(4) {
		case 0:
			s = s[:from] + s[to:]
		case 1:
			s = s[:to] + s[from:to] + s[to:]
		case 2:
			s = s[:from] + someWords(random) + s[from:]
		case 3:
			s = s[from:to] + s[:from] + s[to:]
		}
	}
	return s[:min(len(s), api.MaxText)]
}

func someWords(random *rand.Rand) string {
	words := ""
	for range random.Intn(12) {
		words += []string{"a", "\n", ";", "c0,1;", "i2:", "hello ", "2000-01-08|", "once||\n", fmt.Sprint(random.Intn(1000))}[random.Intn(9)]
	}
	return words
}

func TestDeltaOfEdits(t *testing.T) {
	random := rand.New(rand.NewSource(13))
	a := ""
	for range 3000 {
		b := edited(random, a)
		isDelta(t, a, b)
		isDelta(t, b, a)
		if a = b; random.Intn(100) == 0 {
			a = ""
		}
	}
}

func FuzzApply(f *testing.F) {
	f.Add("hello", "c1,3;i2:ab;c4,1;")
	f.Add("", "i3:a;b;")
	f.Add("hello", "c5,1;x")
	f.Fuzz(appliesPlainly)
}

func FuzzDelta(f *testing.F) {
	f.Add("hello world, hello world", "world, hello world")
	f.Add(strings.Repeat("x", 100), strings.Repeat("x", 50)+"y"+strings.Repeat("x", 60))
	f.Fuzz(isDelta)
}
