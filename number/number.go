// Package number reads numbers that stand in texts.
package number

import "strconv"

// Read a number from 0 on, of at most so many digits: just what strconv.Itoa writes, so that no two texts are one number.
func Read(s string, digits int) (int, bool) {
	if len(s) > digits {
		return 0, false
	}
	n, err := strconv.Atoi(s)
	if err != nil || n < 0 || strconv.Itoa(n) != s {
		return 0, false
	}
	return n, true
}
