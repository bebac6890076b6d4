package refs_test

import (
	"math/rand"
	"slices"
	"testing"

	"lammastide/api"
	"lammastide/refs"
)

// step: what was set or dropped, one behind the other, of all names.
type step struct {
	name   string
	at, to int
}

// asOf a time, by the words of P101: every step is looked at; -1: it was not there.
func asOf(steps []step, name string, at int) int {
	to := -1
	for _, s := range steps {
		if s.name == name && s.at <= at {
			to = s.to
		}
	}
	return to
}

// lastTime of a name's steps.
func lastTime(steps []step, name string) int {
	at := 0
	for _, s := range steps {
		if s.name == name {
			at = s.at
		}
	}
	return at
}

// here: the names that are there now, rising.
func here(steps []step) []string {
	var list []string
	for _, s := range steps {
		if asOf(steps, s.name, api.MaxTime) >= 0 {
			list = append(list, s.name)
		}
	}
	slices.Sort(list)
	return slices.Compact(list)
}

// wanted of a step that comes with old, by the words of P100.
func wanted(steps []step, s step, old int, isDrop bool) error {
	now := asOf(steps, s.name, api.MaxTime)
	switch {
	case s.name == "" || s.name == "A":
		return api.ErrName
	case s.at < 0 || !isDrop && s.to < 0:
		return api.ErrBound
	case now != max(old, -1):
		return api.ErrStale
	case s.at < lastTime(steps, s.name):
		return api.ErrOrder
	case isDrop && now < 0:
		return api.ErrNone
	case now < 0 && len(here(steps)) == api.MaxRefs:
		return api.ErrFull
	}
	return nil
}

// someName: of more than can be there at once, and now and then none.
func someName(random *rand.Rand) string {
	switch random.Intn(40) {
	case 0:
		return ""
	case 1:
		return "A"
	}
	return numbered(random.Intn(api.MaxRefs + 5))
}

// someOld: most often what it is at.
func someOld(random *rand.Rand, now int) int {
	if random.Intn(4) > 0 {
		return now
	}
	return random.Intn(6) - 2
}

// holds what the steps say, whichever way it is asked.
func holds(t *testing.T, r *refs.Refs, steps []step) {
	t.Helper()
	hasNames(t, r, here(steps)...)
	for i := range api.MaxRefs + 5 {
		name := numbered(i)
		var log []refs.Entry
		for _, s := range steps {
			if s.name == name {
				log = append(log, refs.Entry{At: s.at, To: s.to})
			}
		}
		hasLog(t, r, name, log...)
		for at := -1; at <= lastTime(steps, name)+1; at++ {
			was(t, r, name, asOf(steps, name, at), at)
		}
		if now := asOf(steps, name, api.MaxTime); now >= 0 {
			is(t, r, name, now)
		} else {
			isNot(t, r, name)
		}
	}
}

// TestAgainstItsWords: P100 to P102, over steps of any kind, well or not.
func TestAgainstItsWords(t *testing.T) {
	random := rand.New(rand.NewSource(10))
	kinds := map[error]int{}
	for range 40 {
		r, steps := refs.New(), []step(nil)
		for range 200 {
			s := step{name: someName(random), to: random.Intn(20)/5 - random.Intn(20)/19}
			s.at = lastTime(steps, s.name) + random.Intn(5) - random.Intn(2)
			old := someOld(random, asOf(steps, s.name, api.MaxTime))
			isDrop := random.Intn(8) == 0
			want := wanted(steps, s, old, isDrop)
			var err error
			if isDrop {
				s.to = -1
				err = r.Drop(s.name, old, s.at)
			} else {
				err = r.Set(s.name, old, s.to, s.at)
			}
			if err != want {
				t.Fatalf("%v, %v of %d: %v; want %v", s, isDrop, old, err, want)
			}
			kinds[want]++
			if want == nil {
				steps = append(steps, s)
			}
		}
		holds(t, r, steps)
		holds(t, r.Copy(), steps)
		holds(t, read(t, r.Text()), steps)
	}
	for _, kind := range []error{nil, api.ErrName, api.ErrBound, api.ErrStale, api.ErrOrder, api.ErrFull, api.ErrNone} {
		if kinds[kind] < 20 {
			t.Errorf("%v comes %d times: too few to tell", kind, kinds[kind])
		}
	}
}

// TestWhatWasStays: P103. Whatever is set or dropped later, a time ahead of it is told as it was.
func TestWhatWasStays(t *testing.T) {
	random := rand.New(rand.NewSource(11))
	names := []string{"a", "b", "main"}
	for range 20 {
		r := refs.New()
		told := map[string][]int{} // by times: what it was, as it was told when that time was over
		for now := range 60 {
			for range random.Intn(4) {
				name := names[random.Intn(len(names))]
				old, is := r.Get(name)
				if is && random.Intn(3) == 0 {
					drop(t, r, name, old, now)
					continue
				}
				if !is {
					old = -1
				}
				set(t, r, name, old, random.Intn(9), now)
			}
			for _, name := range names {
				last, is := r.Get(name)
				if !is {
					last = -1
				}
				told[name] = append(told[name], last)
				for at, want := range told[name] {
					was(t, r, name, want, at)
				}
				// And none of them may be written anew.
				if l := r.Log(name); len(l) > 0 && l[len(l)-1].At > 0 {
					refusesSet(t, r, name, last, 1, l[len(l)-1].At-1, api.ErrOrder)
					refusesDrop(t, r, name, last, l[len(l)-1].At-1, api.ErrOrder)
				}
			}
			if random.Intn(10) == 0 {
				r = read(t, r.Copy().Text())
			}
		}
	}
}
