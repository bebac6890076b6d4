package number_test

import (
	"math"
	"strconv"
	"testing"

	"lammastide/number"
)

func TestRead(t *testing.T) {
	for _, want := range []int{0, 1, 9, 10, 99, 100, 10000, 999999999, 1 << 40, math.MaxInt} {
		s := strconv.Itoa(want)
		for _, digits := range []int{len(s), len(s) + 1, 100} {
			if n, is := number.Read(s, digits); n != want || !is {
				t.Errorf("%s in %d digits: %d, %v", s, digits, n, is)
			}
		}
		for _, digits := range []int{len(s) - 1, 0, -1, math.MinInt} {
			if n, is := number.Read(s, digits); n != 0 || is {
				t.Errorf("%s in %d digits: %d, %v", s, digits, n, is)
			}
		}
	}
}

func TestReadRefuses(t *testing.T) {
	for _, s := range []string{"", " ", "-", "+", "-1", "+1", "-0", "00", "01", "000", " 1", "1 ", "1\n", "1\x00", "1.", "1e3", "0x1", "1_0", "a", "１", "٣", "9223372036854775808", "18446744073709551616"} {
		if n, is := number.Read(s, 100); n != 0 || is {
			t.Errorf("%q: %d, %v", s, n, is)
		}
	}
}
