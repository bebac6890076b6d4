package refs

import (
	"strconv"
	"strings"

	"lammastide/api"
	"lammastide/names"
	"lammastide/number"
)

const (
	wordGap   = " "
	timeEnd   = ":"
	dropWord  = "-"
	lineEnd   = "\n"
	maxDigits = 13 // of api.MaxTime
)

// Text of refs.
func (r *Refs) Text() string {
	var text strings.Builder
	for _, name := range r.AllNames() {
		text.WriteString(name)
		for _, e := range r.logs[name] {
			text.WriteString(wordGap)
			text.WriteString(entryText(e))
		}
		text.WriteString(lineEnd)
	}
	return text.String()
}

// Read refs.
func Read(s string) (*Refs, error) {
	r := New()
	at, ahead, here := 0, "", 0 // no name is empty, so the first one is greater
	for line := range strings.Lines(s) {
		name, log, err := readLine(line, ahead)
		if lastOf(log).To != dropped {
			here++
		}
		if err == nil && here > api.MaxRefs {
			err = api.ErrFull
		}
		if err != nil {
			return nil, &api.Fault{At: at, Err: err}
		}
		r.logs[name] = log
		at, ahead = at+1, name
	}
	return r, nil
}

func entryText(e Entry) string {
	to := dropWord
	if e.To != dropped {
		to = strconv.Itoa(e.To)
	}
	return strconv.Itoa(e.At) + timeEnd + to
}

// readLine: a name that is greater than the one ahead, and its log.
func readLine(line, ahead string) (string, []Entry, error) {
	name, log, is := splitLine(line)
	switch {
	case !is:
		return "", nil, api.ErrText
	case name <= ahead || timesFall(log):
		return "", nil, api.ErrOrder
	case dropsNothing(log):
		return "", nil, api.ErrShape
	}
	return name, log, nil
}

// splitLine that has the form of one, in whatever order its entries are.
func splitLine(line string) (string, []Entry, bool) {
	text, ended := strings.CutSuffix(line, lineEnd)
	words := strings.Split(text, wordGap)
	if !ended || len(words) < 2 || !names.Is(words[0]) {
		return "", nil, false
	}
	log := make([]Entry, len(words)-1)
	for i, word := range words[1:] {
		e, is := readEntry(word)
		if !is {
			return "", nil, false
		}
		log[i] = e
	}
	return words[0], log, true
}

func readEntry(word string) (Entry, bool) {
	when, what, parted := strings.Cut(word, timeEnd)
	at, hasTime := readNumber(when)
	to, hasCommit := readNumber(what)
	if what == dropWord {
		to, hasCommit = dropped, true
	}
	return Entry{At: at, To: to}, parted && hasTime && hasCommit
}

// readNumber of a time, or of a commit: both have one bound.
func readNumber(s string) (int, bool) {
	n, is := number.Read(s, maxDigits)
	return n, is && inBounds(n)
}

func timesFall(log []Entry) bool {
	for i := 1; i < len(log); i++ {
		if log[i].At < log[i-1].At {
			return true
		}
	}
	return false
}

// dropsNothing: is there a drop where the name is not there, at first or behind another drop?
func dropsNothing(log []Entry) bool {
	for i, e := range log {
		if e.To == dropped && lastOf(log[:i]).To == dropped {
			return true
		}
	}
	return false
}
