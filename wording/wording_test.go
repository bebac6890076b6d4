package wording_test

import (
	"strconv"
	"testing"

	"lammastide/wording"
)

func TestList(t *testing.T) {
	for _, c := range []struct {
		items []string
		want  string
	}{
		{nil, "nothing"}, {[]string{}, "nothing"}, {[]string{"a"}, "a"}, {[]string{"a", "b", "a"}, "a b a"}, {[]string{"", ""}, " "},
	} {
		if got := wording.List(c.items); got != c.want {
			t.Errorf("%q: %q; want %q", c.items, got, c.want)
		}
	}
	if wording.AllRight != "ok" || wording.Nothing != "nothing" || wording.Gap != " " {
		t.Error(wording.AllRight, wording.Nothing, wording.Gap)
	}
}

func TestNumber(t *testing.T) {
	for _, want := range []int{0, 1, 10, 99999999, 999999999} {
		if n, is := wording.Number(strconv.Itoa(want)); n != want || !is {
			t.Errorf("%d: %d, %v", want, n, is)
		}
	}
	for _, s := range []string{"", " 1", "1 ", "-1", "-0", "+1", "01", "00", "x", "1x", "0x1", "1_0", "1.0", "\u0661", "1000000000", "0000000001", "99999999999999999999"} {
		if n, is := wording.Number(s); n != 0 || is {
			t.Errorf("%q: %d, %v", s, n, is)
		}
	}
}
