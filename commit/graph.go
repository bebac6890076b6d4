package commit

import (
	"lammastide/api"
	"lammastide/book"
	"lammastide/merge"
	"lammastide/pool"
)

// Graph of commits.
type Graph struct {
	pool *pool.Pool // whoever asked for it keeps it, so it stays the same one
}

// New graph.
func New() *Graph { return &Graph{pool: pool.New()} }

// Of a pool.
func Of(p *pool.Pool) *Graph { return &Graph{pool: p.Copy()} }

// Pool is its own.
func (g *Graph) Pool() *pool.Pool { return g.pool }

// Get a commit.
func (g *Graph) Get(n int) (Commit, error) {
	s, err := g.pool.Get(n)
	if err != nil {
		return Commit{}, err
	}
	c, err := Read(s)
	if err != nil {
		// Also where a number is too great: it is a text all the same, and no commit's.
		return Commit{}, api.ErrText
	}
	return c, nil
}

// Book of a commit.
func (g *Graph) Book(n int) (*book.Book, error) {
	c, err := g.Get(n)
	if err != nil {
		return nil, err
	}
	s, err := g.pool.Get(c.Tree)
	if err != nil {
		return nil, err
	}
	b, err := book.Read(s)
	if err != nil {
		return nil, api.ErrText
	}
	return b, nil
}

// Add a commit.
func (g *Graph) Add(b *book.Book, parents []int, at int, note string) (int, error) {
	switch {
	case at < 0 || at > api.MaxTime || len(parents) > maxParents:
		return 0, api.ErrBound
	case !isNote(note):
		return 0, api.ErrText
	}
	if err := g.checkParents(parents, at); err != nil {
		return 0, err
	}
	return g.put(b.Text(), Commit{Parents: parents, At: at, Note: note})
}

// Merge two.
func (g *Graph) Merge(a, b, at int, note string) (int, []merge.Clash, error) {
	if err := g.checkApart(a, b); err != nil {
		return 0, nil, err
	}
	joined, clashes, err := g.join(a, b)
	if err != nil {
		return 0, clashes, err
	}
	n, err := g.Add(joined, []int{a, b}, at, note)
	return n, nil, err
}

// checkParents of a commit at a time. All of them are got first, as that none is missing comes ahead of their times.
func (g *Graph) checkParents(parents []int, at int) error {
	latest := 0
	for _, parent := range parents {
		c, err := g.Get(parent)
		if err != nil {
			return err
		}
		latest = max(latest, c.At)
	}
	switch {
	case latest > at:
		return api.ErrOrder
	case len(parents) == maxParents && parents[0] == parents[1]:
		return api.ErrShape
	}
	return nil
}

// put the calendar's text, and the commit's with that one's number. It is tried on a copy, as there may be room for the first of them alone.
func (g *Graph) put(calendar string, c Commit) (int, error) {
	tried := g.pool.Copy()
	tree, err := tried.Put(calendar)
	if err != nil {
		return 0, err
	}
	c.Tree = tree
	n, err := tried.Put(Text(c))
	if err != nil {
		return 0, err
	}
	*g.pool = *tried
	return n, nil
}

// checkApart: two commits, neither of them an ancestor of the other one.
func (g *Graph) checkApart(a, b int) error {
	timesA, err := g.timesOf(a)
	if err != nil {
		return err
	}
	timesB, err := g.timesOf(b)
	if err != nil {
		return err
	}
	_, isA := timesB[a]
	_, isB := timesA[b]
	if isA || isB {
		return api.ErrShape
	}
	return nil
}

// join the calendars of two commits.
func (g *Graph) join(a, b int) (*book.Book, []merge.Clash, error) {
	base, err := g.baseBook(a, b)
	if err != nil {
		return nil, nil, err
	}
	bookA, err := g.Book(a)
	if err != nil {
		return nil, nil, err
	}
	bookB, err := g.Book(b)
	if err != nil {
		return nil, nil, err
	}
	joined, clashes := merge.Three(base, bookA, bookB)
	if len(clashes) > 0 {
		return nil, clashes, api.ErrClash
	}
	return joined, nil, nil
}

func (g *Graph) baseBook(a, b int) (*book.Book, error) {
	n, is := g.Base(a, b)
	if !is {
		return book.New(), nil
	}
	return g.Book(n)
}
