package rule

import (
	"errors"
	"strings"

	"lammastide/api"
	"lammastide/day"
	"lammastide/number"
)

const maxDigits = 9

// place in a rule's text: what was taken last, or what has to come next. They stand in the order of the text, so that a part that comes too late is told by comparing.
type place int

const (
	wantFreq place = iota
	wantEvery
	haveEvery
	haveDays
	wantCount
	haveCount
	wantUntil
	haveAll
)

// reader of a rule's text, word by word.
type reader struct {
	rule api.Rule
	at   place
}

// take the next word; false: it can't stand here.
func (p *reader) take(word string) bool {
	switch p.at {
	case wantFreq:
		return p.takeFreq(word)
	case wantEvery:
		return p.takeNumber(word, &p.rule.Every, haveEvery)
	case wantCount:
		// No rule is written with a count of 0: that is one without.
		return p.takeNumber(word, &p.rule.Count, haveCount) && p.rule.Count > 0
	case wantUntil:
		return p.takeUntil(word)
	}
	return p.takePart(word)
}

func (p *reader) takeFreq(word string) bool {
	p.rule.Freq = word
	p.at = wantEvery
	if word == Once {
		p.rule.Every = 1
		p.at = haveAll
	}
	return isFreq(word)
}

// takePart: the word with which one of the parts begins that may be left out.
func (p *reader) takePart(word string) bool {
	switch {
	case word == countWord && p.at < wantCount:
		p.at = wantCount
		return true
	case word == untilWord && p.at < wantUntil:
		p.at = wantUntil
		return true
	case p.at < haveDays:
		return p.takeDays(word)
	}
	return false
}

func (p *reader) takeNumber(word string, into *int, next place) bool {
	n, is := number.Read(word, maxDigits)
	*into = n
	p.at = next
	return is
}

func (p *reader) takeDays(word string) bool {
	p.at = haveDays
	for name := range strings.SplitSeq(word, dayGap) {
		d, is := readName(name)
		if !is {
			return false
		}
		p.rule.Days = append(p.rule.Days, d)
	}
	return true
}

func (p *reader) takeUntil(word string) bool {
	n, err := day.Read(word)
	if errors.Is(err, api.ErrText) {
		return false
	}
	if err != nil {
		// Left to Check, as a wrong word may still follow, and is told first.
		n = api.MaxDay + 1
	}
	p.rule.Until = n
	p.at = haveAll
	return true
}

// mayEnd: nothing is missing.
func (p *reader) mayEnd() bool {
	switch p.at {
	case wantFreq, wantEvery, wantCount, wantUntil:
		return false
	}
	return true
}

func readName(s string) (int, bool) {
	for d, name := range dayNames {
		if name == s {
			return d, true
		}
	}
	return 0, false
}
