package pack

import (
	"cmp"
	"slices"
	"strconv"

	"lammastide/sized"
)

const maxBases = 4 // of one text, to be tried

// textsAhead of one that is packed.
type textsAhead struct {
	texts []string
	last  map[string]int // of each block of theirs: the last text that has it
}

func newTextsAhead() *textsAhead { return &textsAhead{last: map[string]int{}} }

// add a text behind them.
func (t *textsAhead) add(s string) {
	for _, block := range eachBlock(s) {
		t.last[block] = len(t.texts)
	}
	t.texts = append(t.texts, s)
}

// entry of a text in a pack: the shortest of those that are tried.
func (t *textsAhead) entry(s string) string {
	short := wholeMark + sized.Text(s, lineEnd)
	for _, n := range t.bases(s) {
		e := deltaMark + strconv.Itoa(n) + baseEnd + sized.Text(Delta(t.texts[n], s), lineEnd)
		if len(e) < len(short) {
			short = e
		}
	}
	return short
}

// bases of a text: those that have the most of its blocks. A block counts for the last text that has it, so that many alike take no longer than one.
func (t *textsAhead) bases(s string) []int {
	counts := make([]int, len(t.texts))
	var found []int
	for i := 0; i+blockSize <= len(s); i++ {
		n, is := t.last[s[i:i+blockSize]]
		if !is {
			continue
		}
		if counts[n] == 0 {
			found = append(found, n)
		}
		counts[n]++
	}
	slices.SortFunc(found, func(a, b int) int {
		return cmp.Or(cmp.Compare(counts[b], counts[a]), cmp.Compare(b, a))
	})
	return found[:min(len(found), maxBases)]
}
