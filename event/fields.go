package event

import (
	"strconv"
	"strings"

	"lammastide/api"
	"lammastide/day"
	"lammastide/rule"
)

const (
	listGap   = ","
	moveGap   = ">"
	maxDigits = 9 // with the sign, if there is one
)

func listText[T any](list []T, text func(T) string) string {
	var texts []string
	for _, one := range list {
		texts = append(texts, text(one))
	}
	return strings.Join(texts, listGap)
}

func moveText(m api.Move) string { return day.Text(m.From) + moveGap + day.Text(m.To) }

// isShaped: has a text its field's form, where neither day.Read nor rule.Read tells it?
func isShaped(field, text string) bool {
	switch field {
	case longField:
		_, is := readNumber(text)
		return is
	case movesField:
		return areMoves(text)
	}
	return true
}

func areMoves(text string) bool {
	for _, one := range itemsOf(text) {
		if strings.Count(one, moveGap) != 1 {
			return false
		}
	}
	return true
}

// fill a field with what is read of a text that is known to be shaped.
func fill(e *api.Event, field, text string) error {
	var err error
	switch field {
	case titleField:
		e.Title = text
	case startField:
		e.Start, err = day.Read(text)
	case longField:
		e.Long, _ = readNumber(text)
	case ruleField:
		e.Rule, err = rule.Read(text)
	case skipsField:
		e.Skips, err = readList(text, day.Read)
	case movesField:
		e.Moves, err = readList(text, readMove)
	}
	return err
}

func readList[T any](text string, read func(string) (T, error)) ([]T, error) {
	var list []T
	for _, item := range itemsOf(text) {
		one, err := read(item)
		if err != nil {
			return nil, err
		}
		list = append(list, one)
	}
	return list, nil
}

func readMove(s string) (api.Move, error) {
	fromText, toText, _ := strings.Cut(s, moveGap)
	from, err := day.Read(fromText)
	if err != nil {
		return api.Move{}, err
	}
	to, err := day.Read(toText)
	if err != nil {
		return api.Move{}, err
	}
	return api.Move{From: from, To: to}, nil
}

// itemsOf a list's text; an empty text is a list of none, not of an empty one.
func itemsOf(text string) []string {
	if text == "" {
		return nil
	}
	return strings.Split(text, listGap)
}

// readNumber: just what strconv.Itoa writes, so that no other text is read as the same event.
func readNumber(s string) (int, bool) {
	if len(s) > maxDigits {
		return 0, false
	}
	n, err := strconv.Atoi(s)
	return n, err == nil && strconv.Itoa(n) == s
}
