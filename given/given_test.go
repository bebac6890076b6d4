// Package given tests what is given whole: the numbers and texts of api, and the codes of plain.
package given

import (
	"errors"
	"testing"

	"lammastide/api"
	"lammastide/plain"
)

func TestBounds(t *testing.T) {
	for _, c := range []struct {
		name      string
		got, want int
	}{
		{"FirstYear", api.FirstYear, 2000}, {"LastYear", api.LastYear, 2199}, {"MaxDay", api.MaxDay, 73048},
		{"MaxEvery", api.MaxEvery, 100}, {"MaxCount", api.MaxCount, 1000}, {"MaxList", api.MaxList, 1000},
		{"MaxLong", api.MaxLong, 60}, {"MaxSkips", api.MaxSkips, 20}, {"MaxName", api.MaxName, 12},
		{"MaxTitle", api.MaxTitle, 40}, {"MaxEvents", api.MaxEvents, 60}, {"MaxTexts", api.MaxTexts, 1000},
		{"MaxText", api.MaxText, 10000}, {"MaxNote", api.MaxNote, 40}, {"MaxRefs", api.MaxRefs, 20},
		{"MaxTime", api.MaxTime, 1099511627776}, {"MaxBytes", api.MaxBytes, 1048576},
		{"MaxLines", api.MaxLines, 80}, {"Workers", api.Workers, 16},
	} {
		if c.got != c.want {
			t.Errorf("%s is %d; want %d", c.name, c.got, c.want)
		}
	}
}

func TestErrors(t *testing.T) {
	all := []struct {
		err  error
		text string
	}{
		{api.ErrText, "lammastide: text"}, {api.ErrBound, "lammastide: bound"}, {api.ErrShape, "lammastide: shape"},
		{api.ErrName, "lammastide: name"}, {api.ErrNone, "lammastide: none"}, {api.ErrExist, "lammastide: exist"},
		{api.ErrFull, "lammastide: full"}, {api.ErrOrder, "lammastide: order"}, {api.ErrStale, "lammastide: stale"},
		{api.ErrClash, "lammastide: clash"}, {api.ErrOff, "lammastide: off"},
	}
	for i, c := range all {
		if c.err.Error() != c.text {
			t.Errorf("%q; want %q", c.err.Error(), c.text)
		}
		if code, at := plain.Code(c.err); code != i+1 || at != -1 {
			t.Errorf("%s: code %d at %d", c.text, code, at)
		}
		fault := &api.Fault{At: i, Err: c.err}
		if code, at := plain.Code(fault); code != i+1 || at != i || !errors.Is(fault, c.err) || fault.Error() != c.text {
			t.Errorf("%s, with its place: code %d at %d", c.text, code, at)
		}
	}
	if code, at := plain.Code(nil); code != 0 || at != -1 {
		t.Errorf("nil: code %d at %d", code, at)
	}
	if code, at := plain.Code(errors.New("another one")); code != -1 || at != -1 {
		t.Errorf("another one: code %d at %d", code, at)
	}
}
