package repo

import (
	"strconv"

	"lammastide/api"
	"lammastide/event"
	"lammastide/sweep"
	"lammastide/wording"
)

const mergeNote = "merge "

func (s *state) put(text string) (string, error) {
	e, err := event.Read(text)
	if err != nil {
		return "", err
	}
	return e.ID, s.work.Put(e)
}

func (s *state) drop(id string) (string, error) { return wording.AllRight, s.work.Drop(id) }

func (s *state) tick(word string) (string, error) {
	n, is := wording.Number(word)
	if !is {
		return "", api.ErrText
	}
	if n > api.MaxTime-s.time {
		return "", api.ErrBound
	}
	s.time += n
	return strconv.Itoa(s.time), nil
}

func (s *state) commit(note string) (string, error) {
	var parents []int
	if ahead, is := s.names.Get(s.head); is {
		parents = []int{ahead}
	}
	n, err := s.graph.Add(s.work, parents, s.time, note)
	if err != nil {
		return "", err
	}
	return strconv.Itoa(n), s.setHead(n)
}

func (s *state) branch(name string) (string, error) {
	n, err := s.commitOf(s.head)
	if err != nil {
		return "", err
	}
	if _, is := s.names.Get(name); is {
		return "", api.ErrExist
	}
	return wording.AllRight, s.names.Set(name, notThere, n, s.time)
}

func (s *state) switchTo(name string) (string, error) {
	b, err := s.bookOf(name)
	if err != nil {
		return "", err
	}
	s.head, s.work = name, b
	return wording.AllRight, nil
}

func (s *state) merge(name string) (string, error) {
	theirs, err := s.commitOf(name)
	if err != nil {
		return "", err
	}
	ours, err := s.commitOf(s.head)
	if err != nil {
		return "", err
	}
	if s.graph.Is(theirs, ours) {
		return wording.Nothing, nil
	}
	both := theirs
	if !s.graph.Is(ours, theirs) {
		both, _, err = s.graph.Merge(ours, theirs, s.time, mergeNote+name)
		if err != nil {
			return "", err
		}
	}
	return strconv.Itoa(both), s.goOnFrom(both)
}

// goOnFrom a commit: the HEAD becomes it, and the work its calendar.
func (s *state) goOnFrom(n int) error {
	b, err := s.graph.Book(n)
	if err != nil {
		return err
	}
	s.work = b
	return s.setHead(n)
}

func (s *state) forget(name string) (string, error) {
	if name == s.head {
		return "", api.ErrShape
	}
	return wording.AllRight, s.names.Drop(name, s.placeOf(name), s.time)
}

func (s *state) sweep() (string, error) {
	graph, names, err := sweep.Sweep(s.graph, s.names)
	if err != nil {
		return "", err
	}
	s.graph, s.names = graph, names
	return strconv.Itoa(graph.Pool().Len()), nil
}
