package diff

import (
	"slices"

	"lammastide/api"
	"lammastide/book"
	"lammastide/event"
)

// apply one change; with an error the book is as it was.
func apply(b *book.Book, c api.Change) error {
	switch {
	case slices.Contains(event.Fields(), c.Field):
		return set(b, c)
	case c.Field != allField:
		return api.ErrName
	case (c.Old == "") == (c.New == ""):
		return api.ErrShape
	case c.Old == "":
		return add(b, c)
	}
	return drop(b, c)
}

func add(b *book.Book, c api.Change) error {
	if _, is := b.Get(c.ID); is {
		return api.ErrExist
	}
	e, err := event.Read(c.New)
	if err != nil {
		return err
	}
	if e.ID != c.ID {
		return api.ErrName
	}
	return b.Put(e)
}

func drop(b *book.Book, c api.Change) error {
	if _, err := find(b, c); err != nil {
		return err
	}
	return b.Drop(c.ID)
}

func set(b *book.Book, c api.Change) error {
	e, err := find(b, c)
	if err != nil {
		return err
	}
	e, err = event.Set(e, c.Field, c.New)
	if err != nil {
		return err
	}
	return b.Put(e)
}

// find the event that a change was made for: one that still is as the change knew it.
func find(b *book.Book, c api.Change) (api.Event, error) {
	e, is := b.Get(c.ID)
	if !is {
		return api.Event{}, api.ErrNone
	}
	if textOf(e, c.Field) != c.Old {
		return api.Event{}, api.ErrStale
	}
	return e, nil
}
