// Package number reads numbers that stand in texts.
package number

import (
	"math"
	"strconv"
)

// Read a number from 0 on, of at most so many digits: just what strconv.Itoa writes, so that no two texts are one number.
func Read(s string, digits int) (int, bool) {
	if len(s) > digits {
		return 0, false
	}
	n, err := strconv.Atoi(s)
	if err != nil || n < 0 || strconv.Itoa(n) != s {
		return 0, false
	}
	return n, true
}

// ReadAny number from 0 on, written as Read has it, of however many digits. One that is too great for an int is told as the greatest: nothing that is counted reaches either.
func ReadAny(s string) (int, bool) {
	if s == "" || s[0] == '0' && s != "0" {
		return 0, false
	}
	for i := range len(s) {
		if s[i] < '0' || s[i] > '9' {
			return 0, false
		}
	}
	n, err := strconv.Atoi(s)
	if err != nil {
		return math.MaxInt, true
	}
	return n, true
}
