// Package sized writes texts with their sizes ahead, and takes them off again, whatever bytes they have.
package sized

import (
	"strconv"
	"strings"

	"lammastide/number"
)

const sizeEnd = ":"

// Text: how many bytes s has, a colon, s, and an end.
func Text(s, end string) string { return strconv.Itoa(len(s)) + sizeEnd + s + end }

// Cut the first text, as Text wrote it, off s: the text, and what stands behind its end.
func Cut(s, end string) (text, behind string, is bool) {
	head, rest, isParted := strings.Cut(s, sizeEnd)
	size, isNumber := number.ReadAny(head)
	if !isParted || !isNumber || size > len(rest) {
		return "", "", false
	}
	behind, is = strings.CutPrefix(rest[size:], end)
	if !is {
		return "", "", false
	}
	return rest[:size], behind, true
}
