package pack

import "iter"

const (
	blockSize = 8 // a copy of fewer bytes is seldom shorter than they are
	maxPlaces = 8 // of one block: more would take long in a text that repeats itself
	ownFrame  = len("i00:;")
)

// blocks of a text.
type blocks struct {
	text   string
	places map[string][]int // of each block, the first ones
}

// blocksOf a text.
func blocksOf(text string) blocks {
	b := blocks{text: text, places: map[string][]int{}}
	for i, block := range eachBlock(text) {
		if len(b.places[block]) < maxPlaces {
			b.places[block] = append(b.places[block], i)
		}
	}
	return b
}

// eachBlock of a text with its place, one behind the other, not one at each byte: a piece of near two blocks' bytes has a whole one in it, wherever it begins.
func eachBlock(text string) iter.Seq2[int, string] {
	return func(yield func(int, string) bool) {
		for i := 0; i+blockSize <= len(text); i += blockSize {
			if !yield(i, text[i:i+blockSize]) {
				return
			}
		}
	}
}

// piece of another text that stands in this one.
type piece struct{ from, at, size int } // from: in the other text

// ops that make another text of this one, one by one.
func (b blocks) ops(other string) iter.Seq[op] {
	return func(yield func(op) bool) {
		made := 0
		for i := 0; i+blockSize <= len(other); {
			p := b.longest(other, made, i)
			if !p.isWorth(made) {
				i++
				continue
			}
			if p.from > made && !yield(op{own: other[made:p.from]}) {
				return
			}
			if !yield(p.op()) {
				return
			}
			made = p.from + p.size
			i = made
		}
		if made < len(other) {
			yield(op{own: other[made:]})
		}
	}
}

// longest piece of another text with the block at i in it, of what is not made yet.
func (b blocks) longest(other string, made, i int) piece {
	var most piece
	for _, at := range b.places[other[i:i+blockSize]] {
		ahead := sameEnd(other[made:i], b.text[:at])
		size := ahead + sameStart(other[i:], b.text[at:])
		if size > most.size {
			most = piece{from: i - ahead, at: at - ahead, size: size}
		}
	}
	return most
}

func (p piece) op() op { return op{at: p.at, size: p.size} }

// isWorth to be copied: is the copy shorter than its bytes? Where bytes that are none stand ahead, those behind need a frame anew.
func (p piece) isWorth(made int) bool {
	if p.size == 0 {
		return false
	}
	cost := len(p.op().text())
	if p.from > made {
		cost += ownFrame
	}
	return p.size > cost
}

// sameStart: how many bytes at the start are the same.
func sameStart(a, b string) int {
	n := 0
	for n < len(a) && n < len(b) && a[n] == b[n] {
		n++
	}
	return n
}

// sameEnd: how many bytes at the end are the same.
func sameEnd(a, b string) int {
	n := 0
	for n < len(a) && n < len(b) && a[len(a)-1-n] == b[len(b)-1-n] {
		n++
	}
	return n
}
