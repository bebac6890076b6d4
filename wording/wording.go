// Package wording has what the lines of commands, and their answers, are made of.
package wording

import (
	"strings"

	"lammastide/number"
)

const (
	Gap      = " "  // between two words
	AllRight = "ok" // the answer of what was done, and has nothing to tell
	Nothing  = "nothing"
)

const maxDigits = 9

// Number that is a word of a line.
func Number(word string) (int, bool) { return number.Read(word, maxDigits) }

// List as an answer.
func List(items []string) string {
	if len(items) == 0 {
		return Nothing
	}
	return strings.Join(items, Gap)
}
