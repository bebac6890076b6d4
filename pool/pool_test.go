package pool_test

import (
	"math"
	"math/rand"
	"slices"
	"strconv"
	"strings"
	"testing"

	"lammastide/api"
	"lammastide/pool"
)

// oddTexts: such as might be taken for something else, each another one.
var oddTexts = []string{"ab", "", "c\n:", "\n", ":", "0:\n", "1:a\n", "a", "A", "a ", " a", "ab\x00", "\x00", "\xff\xfe", "é", "e\u0301", "0", "00", "-1", "1", strings.Repeat("x", api.MaxText), strings.Repeat("x", api.MaxText-1), strings.Repeat("\n", api.MaxText)}

// poolOf texts, none of them twice.
func poolOf(t *testing.T, texts ...string) *pool.Pool {
	t.Helper()
	p := pool.New()
	for i, s := range texts {
		if n, err := p.Put(s); n != i || err != nil {
			t.Fatalf("%.40q: %d, %v; want %d", s, n, err, i)
		}
	}
	return p
}

// numbered: so many texts, their numbers written out.
func numbered(many int) []string {
	var texts []string
	for i := range many {
		texts = append(texts, strconv.Itoa(i))
	}
	return texts
}

// holds just these texts, whichever way it is asked.
func holds(t *testing.T, p *pool.Pool, texts []string) {
	t.Helper()
	if p.Len() != len(texts) {
		t.Fatalf("%d texts; want %d", p.Len(), len(texts))
	}
	var all strings.Builder
	for i, want := range texts {
		if s, err := p.Get(i); s != want || err != nil {
			t.Errorf("%d: %.40q, %v; want %.40q", i, s, err, want)
		}
		if n, is := p.Find(want); n != i || !is {
			t.Errorf("%.40q: %d, %v; want %d", want, n, is, i)
		}
		all.WriteString(strconv.Itoa(len(want)) + ":" + want + "\n")
	}
	if p.Text() != all.String() {
		t.Errorf("%.200q; want %.200q", p.Text(), all.String())
	}
	for _, n := range []int{-1, len(texts), len(texts) + 1, api.MaxTexts, math.MinInt, math.MaxInt} {
		if s, err := p.Get(n); s != "" || err != api.ErrNone {
			t.Errorf("%d: %.40q, %v", n, s, err)
		}
	}
}

// lacks: it has no such text.
func lacks(t *testing.T, p *pool.Pool, texts ...string) {
	t.Helper()
	for _, s := range texts {
		if n, is := p.Find(s); n != 0 || is {
			t.Errorf("%.40q: %d, %v", s, n, is)
		}
	}
}

func TestNew(t *testing.T) {
	holds(t, pool.New(), nil)
	lacks(t, pool.New(), oddTexts...)
	a, b := pool.New(), pool.New()
	if _, err := a.Put("a"); a == b || err != nil {
		t.Error(err)
	}
	holds(t, b, nil)
}

func TestPut(t *testing.T) {
	p := poolOf(t, oddTexts...)
	holds(t, p, oddTexts)
	for i, s := range slices.Backward(oddTexts) {
		if n, err := p.Put(strings.Clone(s)); n != i || err != nil {
			t.Errorf("%.40q again: %d, %v; want %d", s, n, err, i)
		}
	}
	holds(t, p, oddTexts)
	lacks(t, p, "b", "AB", "ab\n", "\x00\x00", "x", strings.Repeat("x", api.MaxText+1), strings.Repeat("x", api.MaxText-2))
	if n, err := p.Put("b"); n != len(oddTexts) || err != nil {
		t.Error(n, err)
	}
	holds(t, p, append(slices.Clone(oddTexts), "b"))
}

func TestPutRefusesLongTexts(t *testing.T) {
	p := poolOf(t, "a", "b")
	for _, size := range []int{api.MaxText + 1, api.MaxText + 2, 2 * api.MaxText, api.MaxBytes} {
		long := strings.Repeat("x", size)
		if n, err := p.Put(long); n != 0 || err != api.ErrBound {
			t.Errorf("%d bytes: %d, %v", size, n, err)
		}
		lacks(t, p, long)
	}
	holds(t, p, []string{"a", "b"})
	// Bytes count, not letters.
	if n, err := p.Put(strings.Repeat("é", api.MaxText/2) + "x"); n != 0 || err != api.ErrBound {
		t.Error(n, err)
	}
	if n, err := p.Put(strings.Repeat("é", api.MaxText/2)); n != 2 || err != nil {
		t.Error(n, err)
	}
}

func TestPutRefusesMany(t *testing.T) {
	texts := numbered(api.MaxTexts)
	p := poolOf(t, texts...)
	for _, s := range []string{"x", "", strconv.Itoa(api.MaxTexts), strings.Repeat("x", api.MaxText)} {
		if n, err := p.Put(s); n != 0 || err != api.ErrFull {
			t.Errorf("%.40q: %d, %v", s, n, err)
		}
		lacks(t, p, s)
	}
	if n, err := p.Put(strings.Repeat("x", api.MaxText+1)); n != 0 || err != api.ErrBound {
		t.Error(n, err)
	}
	for i, s := range texts {
		if n, err := p.Put(s); n != i || err != nil {
			t.Errorf("%q again: %d, %v", s, n, err)
		}
	}
	holds(t, p, texts)
}

func TestCopyIsAnother(t *testing.T) {
	for _, many := range []int{0, 1, 2, 3, 5, 7, 100} {
		texts := numbered(many)
		p := poolOf(t, texts...)
		c := p.Copy()
		holds(t, c, texts)
		// Each puts another text in the same place.
		if n, err := p.Put("of the first"); n != many || err != nil {
			t.Fatal(n, err)
		}
		holds(t, c, texts)
		lacks(t, c, "of the first")
		if n, err := c.Put("of the copy"); n != many || err != nil {
			t.Fatal(n, err)
		}
		holds(t, p, append(slices.Clone(texts), "of the first"))
		holds(t, c, append(slices.Clone(texts), "of the copy"))
		lacks(t, p, "of the copy")
	}
}

func TestCopyIsFullAsWell(t *testing.T) {
	c := poolOf(t, numbered(api.MaxTexts)...).Copy()
	if n, err := c.Put("x"); n != 0 || err != api.ErrFull {
		t.Error(n, err)
	}
	if n, err := c.Put("7"); n != 7 || err != nil {
		t.Error(n, err)
	}
}

// TestOneNumberOneText: P82, and all that P80 says, held against a list that is looked through.
func TestOneNumberOneText(t *testing.T) {
	random := rand.New(rand.NewSource(8))
	letters := []string{"", "a", "b", "\n", ":", "1", "\x00", "\xff"}
	for range 20 {
		p, list := pool.New(), []string(nil)
		for range 400 {
			s := letters[random.Intn(8)] + letters[random.Intn(8)] + letters[random.Intn(8)]
			want := slices.Index(list, s)
			if found, is := p.Find(s); is != (want >= 0) || is && found != want {
				t.Fatalf("%q: %d, %v; want %d", s, found, is, want)
			}
			if want < 0 {
				want = len(list)
				list = append(list, s)
			}
			if n, err := p.Put(s); n != want || err != nil {
				t.Fatalf("%q: %d, %v; want %d", s, n, err, want)
			}
		}
		holds(t, p, list)
		holds(t, p.Copy(), list)
		again, err := pool.Read(p.Text())
		if err != nil {
			t.Fatal(err)
		}
		holds(t, again, list)
	}
}
