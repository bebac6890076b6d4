package sized_test

import (
	"strings"
	"testing"

	"lammastide/sized"
)

var texts = []string{"", "a", "ab", "\n", ":", "1:a\n", ";", "\n.", "0:", "é", "\xff\x00", strings.Repeat("x", 10), strings.Repeat("\n.", 5000), strings.Repeat("y", 100000)}

func TestText(t *testing.T) {
	for _, c := range []struct{ s, end, want string }{
		{"", "\n", "0:\n"}, {"", "", "0:"}, {"a", ";", "1:a;"}, {"a\n.b", "\n.", "4:a\n.b\n."}, {"é", "", "2:é"}, {"0123456789", "\n", "10:0123456789\n"},
	} {
		if s := sized.Text(c.s, c.end); s != c.want {
			t.Errorf("%q: %q; want %q", c.s, s, c.want)
		}
	}
}

func TestCut(t *testing.T) {
	for _, end := range []string{"", ";", "\n", "\n."} {
		for _, want := range texts {
			for _, more := range append([]string{"x", end}, texts...) {
				if s, behind, is := sized.Cut(sized.Text(want, end)+more, end); s != want || behind != more || !is {
					t.Errorf("%.20q, end %q, with %.20q behind: %.20q, %.20q, %v", want, end, more, s, behind, is)
				}
			}
		}
	}
}

func TestCutRefuses(t *testing.T) {
	for _, s := range []string{
		"", "x", ":", ":\n.", "1", "1a\n.", "0\n.", "1:", "1:a", "1:a\n", "1:a.\n", "1:a\r\n.", "1:ab\n.", "2:a\n.", "3:a\n.", "0:a\n.", "1:\n.",
		"01:a\n.", "00:\n.", "-1:a\n.", "-0:\n.", "+1:a\n.", " 1:a\n.", "1 :a\n.", "0x1:a\n.", "１:a\n.", "1\n:a\n.", "1.0:a\n.",
		"9223372036854775807:a\n.", "9223372036854775808:a\n.", "18446744073709551617:a\n.", strings.Repeat("9", 1000) + ":a\n.",
	} {
		if text, behind, is := sized.Cut(s, "\n."); text != "" || behind != "" || is {
			t.Errorf("%.40q: %q, %q, %v", s, text, behind, is)
		}
	}
}
