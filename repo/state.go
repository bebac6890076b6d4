package repo

import (
	"lammastide/api"
	"lammastide/book"
	"lammastide/commit"
	"lammastide/refs"
)

const (
	firstHead = "main"
	notThere  = -1 // where a name is that is not there, as refs has it
)

// state of a repository: all of it but the tape.
type state struct {
	graph *commit.Graph
	names *refs.Refs
	work  *book.Book
	head  string
	time  int
}

func newState() state {
	return state{graph: commit.New(), names: refs.New(), work: book.New(), head: firstHead}
}

// copy that shares nothing which a line could change.
func (s *state) copy() state {
	other := *s
	other.graph = commit.Of(s.graph.Pool())
	other.names = s.names.Copy()
	other.work = s.work.Copy()
	return other
}

func same(a, b state) bool {
	return a.head == b.head && a.time == b.time && book.Same(a.work, b.work) &&
		a.graph.Pool().Text() == b.graph.Pool().Text() && a.names.Text() == b.names.Text()
}

// placeOf a name: its commit, or notThere.
func (s *state) placeOf(name string) int {
	n, is := s.names.Get(name)
	if !is {
		return notThere
	}
	return n
}

// commitOf a name that is there.
func (s *state) commitOf(name string) (int, error) {
	n, is := s.names.Get(name)
	if !is {
		return 0, api.ErrNone
	}
	return n, nil
}

// bookOf a name that is there.
func (s *state) bookOf(name string) (*book.Book, error) {
	n, err := s.commitOf(name)
	if err != nil {
		return nil, err
	}
	return s.graph.Book(n)
}

// setHead: the HEAD becomes a commit.
func (s *state) setHead(n int) error {
	return s.names.Set(s.head, s.placeOf(s.head), n, s.time)
}
