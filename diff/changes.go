package diff

import (
	"iter"
	"slices"

	"lammastide/api"
	"lammastide/book"
	"lammastide/event"
)

// allField stands for the whole event, where one comes or goes.
const allField = "all"

// idsOf two books, rising, each once.
func idsOf(a, b *book.Book) []string {
	ids := slices.Concat(a.IDs(), b.IDs())
	slices.Sort(ids)
	return slices.Compact(ids)
}

// changesOf one event, which one of the books has, or both: one by one, in the order of the fields.
func changesOf(id string, a, b *book.Book) iter.Seq[api.Change] {
	return func(yield func(api.Change) bool) {
		before, was := a.Get(id)
		after, is := b.Get(id)
		fields := event.Fields()
		if !was || !is {
			fields = []string{allField}
		}
		for _, field := range fields {
			c := api.Change{ID: id, Field: field, Old: textOf(before, field), New: textOf(after, field)}
			if c.Old != c.New && !yield(c) {
				return
			}
		}
	}
}

// textOf a field. The whole text of an event that is not there is empty, as its zero value is not well.
func textOf(e api.Event, field string) string {
	if field == allField {
		return event.Text(e)
	}
	return event.Get(e, field)
}
