package pack

import (
	"strconv"
	"strings"

	"lammastide/api"
	"lammastide/number"
	"lammastide/sized"
)

const (
	copyMark = "c"
	placeEnd = ","
	ownMark  = "i"
	opEnd    = ";"
)

// op of a delta.
type op struct {
	own      string // its own bytes; none: it copies
	at, size int    // of a copy
}

// Delta from a text to another one.
func Delta(a, b string) string {
	var d strings.Builder
	for o := range blocksOf(a).ops(b) {
		d.WriteString(o.text())
	}
	if plain := ownText(b); len(plain) < d.Len() {
		return plain
	}
	return d.String()
}

// Apply a delta.
func Apply(a, d string) (string, error) {
	var made strings.Builder
	inBounds := true
	// A delta that is none tells so, also where it goes out of bounds ahead of that: all of it is read.
	for d != "" {
		o, behind, is := cutOp(d)
		if !is {
			return "", api.ErrText
		}
		part, has := o.of(a)
		inBounds = inBounds && has && made.Len()+len(part) <= api.MaxText
		if inBounds {
			made.WriteString(part)
		}
		d = behind
	}
	if !inBounds {
		return "", api.ErrBound
	}
	return made.String(), nil
}

// text of an op.
func (o op) text() string {
	if o.own != "" {
		return ownText(o.own)
	}
	return copyMark + strconv.Itoa(o.at) + placeEnd + strconv.Itoa(o.size) + opEnd
}

func ownText(s string) string { return ownMark + sized.Text(s, opEnd) }

// of a text: the bytes that the op makes; false: it has them not.
func (o op) of(a string) (string, bool) {
	switch {
	case o.own != "":
		return o.own, true
	case o.size > len(a)-o.at: // their sum may be too great for an int
		return "", false
	}
	return a[o.at : o.at+o.size], true
}

// cutOp: the first op of a delta, and what stands behind it.
func cutOp(d string) (op, string, bool) {
	if rest, is := strings.CutPrefix(d, copyMark); is {
		return cutCopy(rest)
	}
	if rest, is := strings.CutPrefix(d, ownMark); is {
		own, behind, is := sized.Cut(rest, opEnd)
		return op{own: own}, behind, is && own != ""
	}
	return op{}, "", false
}

func cutCopy(s string) (op, string, bool) {
	place, rest, isParted := strings.Cut(s, placeEnd)
	many, behind, isEnded := strings.Cut(rest, opEnd)
	at, isPlace := number.ReadAny(place)
	size, isSize := number.ReadAny(many)
	return op{at: at, size: size}, behind, isParted && isEnded && isPlace && isSize && size > 0
}
