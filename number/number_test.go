package number_test

import (
	"math"
	"strconv"
	"strings"
	"testing"

	"lammastide/number"
)

func TestRead(t *testing.T) {
	for _, want := range []int{0, 1, 9, 10, 99, 100, 10000, 999999999, 1 << 40, math.MaxInt} {
		s := strconv.Itoa(want)
		for _, digits := range []int{len(s), len(s) + 1, 100} {
			if n, is := number.Read(s, digits); n != want || !is {
				t.Errorf("%s in %d digits: %d, %v", s, digits, n, is)
			}
		}
		for _, digits := range []int{len(s) - 1, 0, -1, math.MinInt} {
			if n, is := number.Read(s, digits); n != 0 || is {
				t.Errorf("%s in %d digits: %d, %v", s, digits, n, is)
			}
		}
		if n, is := number.ReadAny(s); n != want || !is {
			t.Errorf("%s: %d, %v", s, n, is)
		}
	}
}

func TestReadAnyOfManyDigits(t *testing.T) {
	for _, s := range []string{"9223372036854775808", "10000000000000000000", "18446744073709551615", "18446744073709551616", "18446744073709551617", strings.Repeat("9", 1000), "1" + strings.Repeat("0", 100000)} {
		if n, is := number.ReadAny(s); n != math.MaxInt || !is {
			t.Errorf("%.40s: %d, %v", s, n, is)
		}
		for _, wrong := range []string{"0" + s, "-" + s, "+" + s, s + "x", s + " ", " " + s, s + "\n"} {
			if n, is := number.ReadAny(wrong); n != 0 || is {
				t.Errorf("%.40q: %d, %v", wrong, n, is)
			}
		}
	}
}

func TestReadRefuses(t *testing.T) {
	for _, s := range []string{"", " ", "-", "+", "-1", "+1", "-0", "00", "01", "000", " 1", "1 ", "1\n", "1\x00", "1.", "1e3", "0x1", "1_0", "a", "１", "٣"} {
		if n, is := number.Read(s, 100); n != 0 || is {
			t.Errorf("%q: %d, %v", s, n, is)
		}
		if n, is := number.ReadAny(s); n != 0 || is {
			t.Errorf("%q, of any digits: %d, %v", s, n, is)
		}
	}
	for _, s := range []string{"9223372036854775808", "18446744073709551616"} {
		if n, is := number.Read(s, 100); n != 0 || is {
			t.Errorf("%q: %d, %v", s, n, is)
		}
	}
}
