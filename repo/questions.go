package repo

import (
	"strconv"

	"lammastide/api"
	"lammastide/day"
	"lammastide/diff"
	"lammastide/wording"
)

func (s *state) on(date string) (string, error) {
	d, err := day.Read(date)
	if err != nil {
		return "", err
	}
	return wording.List(s.work.On(d)), nil
}

func (s *state) was(name, when, date string) (string, error) {
	// The line is read whole ahead of what it asks for.
	at, is := wording.Number(when)
	if !is {
		return "", api.ErrText
	}
	d, err := day.Read(date)
	if err != nil {
		return "", err
	}
	n, is := s.names.As(name, at)
	if !is {
		return "", api.ErrNone
	}
	b, err := s.graph.Book(n)
	if err != nil {
		return "", err
	}
	return wording.List(b.On(d)), nil
}

func (s *state) log() (string, error) {
	n, is := s.names.Get(s.head)
	if !is {
		return wording.Nothing, nil
	}
	commits, err := s.graph.Ancestors(n)
	if err != nil {
		return "", err
	}
	var numbers []string
	for _, n := range commits {
		numbers = append(numbers, strconv.Itoa(n))
	}
	return wording.List(numbers), nil
}

func (s *state) diff(name string) (string, error) {
	b, err := s.bookOf(name)
	if err != nil {
		return "", err
	}
	var changes []string
	for _, c := range diff.Diff(b, s.work) {
		changes = append(changes, c.ID+"."+c.Field)
	}
	return wording.List(changes), nil
}
