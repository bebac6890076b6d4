package sweep

import (
	"slices"

	"lammastide/book"
	"lammastide/commit"
	"lammastide/refs"
)

// pair of numbers: one of the first graph's texts, one of the second one's.
type pair struct{ first, second int }

// match of two graphs: the pairs that were looked at. Of commits there may be far more ways to a pair than there are pairs.
type match struct {
	first, second *commit.Graph
	commits       map[pair]struct{}
	calendars     map[pair]struct{}
}

// Same two graphs, with their refs?
func Same(g *commit.Graph, r *refs.Refs, h *commit.Graph, s *refs.Refs) bool {
	line, alike := pairsOf(r, s)
	if !alike {
		return false
	}
	m := &match{first: g, second: h, commits: map[pair]struct{}{}, calendars: map[pair]struct{}{}}
	for len(line) > 0 {
		last := len(line) - 1
		p := line[last]
		line = line[:last]
		if _, is := m.commits[p]; is {
			continue
		}
		m.commits[p] = struct{}{}
		parents, alike := m.alike(p)
		if !alike {
			return false
		}
		line = append(line, parents...)
	}
	return true
}

// pairsOf commits that two refs have at one place; false: names, times or drops are not the same.
func pairsOf(r, s *refs.Refs) ([]pair, bool) {
	all := r.AllNames()
	if !slices.Equal(all, s.AllNames()) {
		return nil, false
	}
	var pairs []pair
	for _, name := range all {
		first, second := r.Log(name), s.Log(name)
		if !slices.EqualFunc(first, second, alikeAside) {
			return nil, false
		}
		for i, e := range first {
			if !isDrop(e) {
				pairs = append(pairs, pair{e.To, second[i].To})
			}
		}
	}
	return pairs, true
}

// alikeAside from what commits they name.
func alikeAside(a, b refs.Entry) bool { return a.At == b.At && isDrop(a) == isDrop(b) }

// alike: two commits, their parents aside, which are told as pairs.
func (m *match) alike(p pair) ([]pair, bool) {
	first, errFirst := m.first.Get(p.first)
	second, errSecond := m.second.Get(p.second)
	if errFirst != nil || errSecond != nil || first.At != second.At || first.Note != second.Note {
		return nil, false
	}
	if len(first.Parents) != len(second.Parents) || !m.sameCalendars(p, pair{first.Tree, second.Tree}) {
		return nil, false
	}
	parents := make([]pair, len(first.Parents))
	for i, parent := range first.Parents {
		parents[i] = pair{parent, second.Parents[i]}
	}
	return parents, true
}

// sameCalendars of two commits, whose Trees are known.
func (m *match) sameCalendars(p, trees pair) bool {
	if _, is := m.calendars[trees]; is {
		return true
	}
	first, errFirst := m.first.Book(p.first)
	second, errSecond := m.second.Book(p.second)
	if errFirst != nil || errSecond != nil || !book.Same(first, second) {
		return false
	}
	m.calendars[trees] = struct{}{}
	return true
}
