package commit

import (
	"cmp"
	"maps"
	"slices"
)

// Ancestors of a commit.
func (g *Graph) Ancestors(n int) ([]int, error) {
	times, err := g.timesOf(n)
	if err != nil {
		return nil, err
	}
	return slices.SortedFunc(maps.Keys(times), func(a, b int) int {
		return cmp.Or(cmp.Compare(times[b], times[a]), cmp.Compare(b, a))
	}), nil
}

// Is a commit an ancestor of another one?
func (g *Graph) Is(a, n int) bool {
	times, err := g.timesOf(n)
	_, is := times[a]
	return err == nil && is
}

// Base of two.
func (g *Graph) Base(a, b int) (int, bool) {
	common := g.common(a, b)
	children := g.childrenIn(common)
	for _, n := range common {
		if children[n] == 0 {
			return n, true
		}
	}
	return 0, false
}

// timesOf a commit and all its ancestors, by their numbers; itself first, its parents next, then theirs.
func (g *Graph) timesOf(n int) (map[int]int, error) {
	times := map[int]int{}
	line := []int{n}
	for i := 0; i < len(line); i++ {
		// Two may have one parent; and in a pool that was made otherwise a commit may be its own ancestor.
		if _, is := times[line[i]]; is {
			continue
		}
		c, err := g.Get(line[i])
		if err != nil {
			return nil, err
		}
		times[line[i]] = c.At
		line = append(line, c.Parents...)
	}
	return times, nil
}

// common ancestors of two, in the order of Ancestors; none, where those of one of them can't be told.
func (g *Graph) common(a, b int) []int {
	list, errA := g.Ancestors(a)
	times, errB := g.timesOf(b)
	if errA != nil || errB != nil {
		return nil
	}
	return slices.DeleteFunc(list, func(n int) bool {
		_, is := times[n]
		return !is
	})
}

// childrenIn a list: how many of it have a commit as parent, itself aside.
// Of common ancestors this tells which one is another one's ancestor: on the way from one to the other all are common, also the last ahead of it.
func (g *Graph) childrenIn(list []int) map[int]int {
	children := map[int]int{}
	for _, n := range list {
		c, _ := g.Get(n) // as they are ancestors, they were got before
		for _, parent := range c.Parents {
			if parent != n {
				children[parent]++
			}
		}
	}
	return children
}
