package script

import (
	"errors"
	"testing"

	"lammastide/api"
	"lammastide/repo"
	"lammastide/tape"
)

// TestAgainOfAStrangeTape: a record that no line of a script could have put there. Its error is told, and the repository stays the one that was there.
func TestAgainOfAStrangeTape(t *testing.T) {
	for _, c := range []struct {
		record string
		want   error
	}{
		{"what", api.ErrText}, {"drop zz", api.ErrNone}, {"put a||2000-01-05|0|once||", api.ErrBound}, {"branch Main", api.ErrName},
	} {
		p := newPlayer()
		for _, line := range []string{"commit x", "tick 3"} {
			if _, err := p.play(line); err != nil {
				t.Fatal(err)
			}
		}
		if err := tape.Append(p.Tape(), c.record); err != nil {
			t.Fatal(err)
		}
		was := p.Repo
		answer, err := p.play("again")
		var fault *api.Fault
		if answer != "" || !errors.As(err, &fault) || *fault != (api.Fault{At: 2, Err: c.want}) {
			t.Errorf("%q: %q, %v", c.record, answer, err)
		}
		if p.Repo != was || p.Now() != 3 || textOf(err) != c.want.Error() {
			t.Errorf("%q: %d, %q", c.record, p.Now(), textOf(err))
		}
	}
}

// TestAgainOpensTheTape: another repository, of the same tape.
func TestAgainOpensTheTape(t *testing.T) {
	p := newPlayer()
	if answer, err := p.play("tick 3"); answer != "3" || err != nil {
		t.Fatal(answer, err)
	}
	was := p.Repo
	if answer, err := p.play("again"); answer != "ok" || err != nil {
		t.Error(answer, err)
	}
	if p.Repo == was || p.Tape() != was.Tape() || !repo.Same(p.Repo, was) {
		t.Error(p.Now(), p.Tape().Bytes())
	}
}

// told: an error whose own text has its place in it.
type told struct{ fault error }

func (e told) Error() string { return "at some place: " + e.fault.Error() }

func (e told) Unwrap() error { return e.fault }

func TestTextOf(t *testing.T) {
	for _, c := range []struct {
		err  error
		want string
	}{
		{api.ErrOff, "lammastide: off"}, {&api.Fault{At: 3, Err: api.ErrStale}, "lammastide: stale"}, {told{&api.Fault{At: 3, Err: api.ErrStale}}, "lammastide: stale"}, {told{api.ErrOff}, "at some place: lammastide: off"},
	} {
		if got := textOf(c.err); got != c.want {
			t.Errorf("%q; want %q", got, c.want)
		}
	}
}
