package names_test

import (
	"strings"
	"testing"

	"lammastide/api"
	"lammastide/names"
)

func TestIs(t *testing.T) {
	for _, s := range []string{"a", "z", "0", "9", "main", "b2", "2b", "007", strings.Repeat("x", api.MaxName), strings.Repeat("9", api.MaxName), "abcdefghijkl", "mnopqrstuvwx", "yz0123456789"} {
		if !names.Is(s) {
			t.Errorf("%q is none", s)
		}
	}
}

func TestIsNone(t *testing.T) {
	for _, s := range []string{"", " ", "A", "Z", "aB", " a", "a ", "a b", "a\n", "\x00", "a\x00", "-", "-1", "a-b", "a_b", "a.b", "a:b", "a|b", "é", "ａ", "１", "\xff", strings.Repeat("x", api.MaxName+1), strings.Repeat("é", 6), strings.Repeat("x", 100000)} {
		if names.Is(s) {
			t.Errorf("%.40q is one", s)
		}
	}
	// Just these bytes, wherever they stand.
	for b := range 256 {
		c := string([]byte{byte(b)})
		want := strings.Contains("abcdefghijklmnopqrstuvwxyz0123456789", c)
		for _, s := range []string{c, "a" + c, c + "0", "a" + c + "z"} {
			if names.Is(s) != want {
				t.Errorf("%q: %v", s, !want)
			}
		}
	}
}
