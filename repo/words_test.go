package repo_test

import (
	"fmt"
	"maps"
	"math/rand"
	"slices"
	"strconv"
	"strings"
	"testing"

	"lammastide/api"
	"lammastide/book"
	"lammastide/day"
	"lammastide/event"
	"lammastide/merge"
	"lammastide/names"
	"lammastide/repo"
)

// told of a name: when, and which commit; -1: dropped.
type told struct{ at, to int }

// kept of a commit.
type kept struct {
	calendar map[string]string // events' texts, by IDs
	parents  []int
	at       int
}

// words: a repository by the words of P140 and P141 alone.
type words struct {
	texts   []string
	commits map[int]kept
	logs    map[string][]told
	work    map[string]string
	head    string
	time    int
	lines   []string // that are kept
}

func newWords() *words {
	return &words{commits: map[int]kept{}, logs: map[string][]told{}, work: map[string]string{}, head: "main"}
}

// is: the commit that a name is at a time; -1: it is not there.
func (w *words) is(name string, at int) int {
	to := -1
	for _, e := range w.logs[name] {
		if e.at <= at {
			to = e.to
		}
	}
	return to
}

func (w *words) now(name string) int { return w.is(name, w.time) }

func (w *words) set(name string, to int) { w.logs[name] = append(w.logs[name], told{w.time, to}) }

// number of a text.
func (w *words) number(text string) int {
	if n := slices.Index(w.texts, text); n >= 0 {
		return n
	}
	w.texts = append(w.texts, text)
	return len(w.texts) - 1
}

// add a commit of the work.
func (w *words) add(note string, parents ...int) int {
	text := "commit " + strconv.Itoa(w.number(textOf(w.work)))
	for _, p := range parents {
		text += " " + strconv.Itoa(p)
	}
	n := w.number(text + "\n" + strconv.Itoa(w.time) + " " + note)
	w.commits[n] = kept{maps.Clone(w.work), parents, w.time}
	return n
}

// family of a commit, itself in it.
func (w *words) family(n int) []int {
	all := []int{n}
	for _, p := range w.commits[n].parents {
		all = append(all, w.family(p)...)
	}
	slices.SortFunc(all, func(a, b int) int {
		if d := w.commits[b].at - w.commits[a].at; d != 0 {
			return d
		}
		return b - a
	})
	return slices.Compact(all)
}

// base of two: the first in the family's order that is in the family of no other common one.
func (w *words) base(a, b int) map[string]string {
	var common []int
	for _, n := range w.family(a) {
		if slices.Contains(w.family(b), n) {
			common = append(common, n)
		}
	}
	for _, n := range common {
		if !slices.ContainsFunc(common, func(m int) bool { return m != n && slices.Contains(w.family(m), n) }) {
			return w.commits[n].calendar
		}
	}
	return nil
}

func textOf(calendar map[string]string) string {
	var text string
	for _, id := range slices.Sorted(maps.Keys(calendar)) {
		text += calendar[id] + "\n"
	}
	return text
}

func bookOf(calendar map[string]string) *book.Book {
	b, err := book.Read(textOf(calendar))
	if err != nil {
		panic(err)
	}
	return b
}

// onDay: who covers it.
func onDay(calendar map[string]string, d int) string {
	var list []string
	for _, id := range slices.Sorted(maps.Keys(calendar)) {
		if e, _ := event.Read(calendar[id]); event.Covers(e, d) {
			list = append(list, id)
		}
	}
	return answerOf(list)
}

// answerOf a list.
func answerOf(list []string) string {
	if len(list) == 0 {
		return "nothing"
	}
	return strings.Join(list, " ")
}

// do a line; what it keeps is in its lines then.
func (w *words) do(line string) (string, error) {
	verb, rest, _ := strings.Cut(line, " ")
	switch verb {
	case "on", "was", "log", "diff", "head":
		return w.ask(verb, strings.Split(rest, " "))
	case "merge":
		return w.merge(rest, line)
	}
	answer, err := w.change(verb, rest)
	if err == nil {
		w.lines = append(w.lines, line)
	}
	return answer, err
}

func (w *words) change(verb, rest string) (string, error) {
	head := w.now(w.head)
	switch verb {
	case "put":
		e, err := event.Read(rest)
		if err == nil {
			w.work[e.ID] = rest
		}
		return e.ID, err
	case "drop":
		if _, is := w.work[rest]; !is {
			return "", api.ErrNone
		}
		delete(w.work, rest)
	case "tick":
		n, err := strconv.Atoi(rest)
		if err != nil || n < 0 {
			return "", api.ErrText
		}
		w.time += n
		return strconv.Itoa(w.time), nil
	case "commit":
		if len(rest) > api.MaxNote {
			return "", api.ErrText
		}
		parents := []int{head}
		if head < 0 {
			parents = nil
		}
		n := w.add(rest, parents...)
		w.set(w.head, n)
		return strconv.Itoa(n), nil
	case "branch":
		switch {
		case head < 0:
			return "", api.ErrNone
		case w.now(rest) >= 0:
			return "", api.ErrExist
		case !names.Is(rest):
			return "", api.ErrName
		}
		w.set(rest, head)
	case "switch":
		if w.now(rest) < 0 {
			return "", api.ErrNone
		}
		w.head, w.work = rest, maps.Clone(w.commits[w.now(rest)].calendar)
	case "forget":
		switch {
		case rest == w.head:
			return "", api.ErrShape
		case !names.Is(rest):
			return "", api.ErrName
		case w.now(rest) < 0:
			return "", api.ErrNone
		}
		w.set(rest, -1)
	case "sweep":
		return strconv.Itoa(len(w.texts)), nil
	default:
		return "", api.ErrText
	}
	return "ok", nil
}

func (w *words) merge(name, line string) (string, error) {
	head, other := w.now(w.head), w.now(name)
	if head < 0 || other < 0 {
		return "", api.ErrNone
	}
	if slices.Contains(w.family(head), other) {
		return "nothing", nil
	}
	n := other
	if slices.Contains(w.family(other), head) {
		w.work = maps.Clone(w.commits[other].calendar)
	} else {
		both, clashes := merge.Three(bookOf(w.base(head, other)), bookOf(w.commits[head].calendar), bookOf(w.commits[other].calendar))
		if len(clashes) > 0 {
			return "", api.ErrClash
		}
		w.work = map[string]string{}
		for _, id := range both.IDs() {
			e, _ := both.Get(id)
			w.work[id] = event.Text(e)
		}
		n = w.add(line, head, other)
	}
	w.set(w.head, n)
	w.lines = append(w.lines, line)
	return strconv.Itoa(n), nil
}

func (w *words) ask(verb string, rest []string) (string, error) {
	switch verb {
	case "on":
		d, err := day.Read(rest[0])
		if err != nil {
			return "", err
		}
		return onDay(w.work, d), nil
	case "was":
		at, _ := strconv.Atoi(rest[1])
		d, err := day.Read(rest[2])
		if err != nil {
			return "", err
		}
		if w.is(rest[0], at) < 0 {
			return "", api.ErrNone
		}
		return onDay(w.commits[w.is(rest[0], at)].calendar, d), nil
	case "log":
		if w.now(w.head) < 0 {
			return "nothing", nil
		}
		list := fmt.Sprint(w.family(w.now(w.head)))
		return list[1 : len(list)-1], nil
	case "diff":
		if w.now(rest[0]) < 0 {
			return "", api.ErrNone
		}
		return differs(w.commits[w.now(rest[0])].calendar, w.work), nil
	}
	return w.head, nil
}

// differs: what of one calendar is not as in another one.
func differs(from, to map[string]string) string {
	ids := slices.Concat(slices.Collect(maps.Keys(from)), slices.Collect(maps.Keys(to)))
	slices.Sort(ids)
	var list []string
	for _, id := range slices.Compact(ids) {
		if from[id] == "" || to[id] == "" {
			list = append(list, id+".all")
			continue
		}
		a, _ := event.Read(from[id])
		b, _ := event.Read(to[id])
		for _, field := range event.Fields() {
			if event.Get(a, field) != event.Get(b, field) {
				list = append(list, id+"."+field)
			}
		}
	}
	return answerOf(list)
}

// holds all that the words say.
func (w *words) holds(t *testing.T, r *repo.Repo) {
	t.Helper()
	var logs strings.Builder
	for _, name := range slices.Sorted(maps.Keys(w.logs)) {
		logs.WriteString(name)
		for _, e := range w.logs[name] {
			to := strconv.Itoa(e.to)
			if e.to < 0 {
				to = "-"
			}
			fmt.Fprintf(&logs, " %d:%s", e.at, to)
		}
		logs.WriteString("\n")
	}
	var texts strings.Builder
	for _, s := range w.texts {
		fmt.Fprintf(&texts, "%d:%s\n", len(s), s)
	}
	want := fmt.Sprintf("%s\n%d\n%s\n%s\n%s", w.head, w.time, textOf(w.work), logs.String(), texts.String())
	if got := stateOf(r); got != want {
		t.Fatalf("%q; want %q", got, want)
	}
	if got := recordsOf(t, r); !slices.Equal(got, w.lines) {
		t.Fatalf("%q; want %q", got, w.lines)
	}
}

// pick one of a list.
func pick(random *rand.Rand, list ...string) string { return list[random.Intn(len(list))] }

// someLine of any kind.
func someLine(random *rand.Rand) string {
	name := pick(random, "main", "a", "b", "main", "a", "b", "zz", "B", "")
	date := pick(random, "2000-01-05", "2000-01-12", "2000-01-19", "2000-01-06", "2000-02-30")
	id := pick(random, "x", "y", "nothing")
	switch random.Intn(18) {
	case 16, 17:
		return "switch " + pick(random, "main", "a", "b")
	case 0, 1, 2:
		return "put " + id + "|" + pick(random, "", "A", "B", "C") + "|2000-01-05|" + pick(random, "1", "2", "1", "61") + "|" + pick(random, "once", "weekly 1") + "|" + pick(random, "", "2000-01-12", "2000-01-19") + "|"
	case 3:
		return "drop " + id
	case 4:
		return "tick " + pick(random, "0", "1", "2", "x")
	case 5, 6:
		return "commit " + pick(random, "", "n", "some words", strings.Repeat("x", 41))
	case 7:
		return "branch " + name
	case 8:
		return "switch " + name
	case 9, 10:
		return "merge " + name
	case 11:
		return pick(random, "forget "+name, "sweep")
	case 12:
		return "on " + date
	case 13:
		return "was " + name + " " + strconv.Itoa(random.Intn(20)) + " " + date
	case 14:
		return "diff " + name
	}
	return pick(random, "log", "head", "what", "")
}

// kindOf what happened.
func kindOf(line, answer string, err error) string {
	verb, _, _ := strings.Cut(line, " ")
	if verb == "merge" && answer == "nothing" {
		return "merge nothing"
	}
	return verb + " " + fmt.Sprint(err)
}

// TestAgainstItsWords: P140 and P141, over lines of any kind; and P143: wherever power is cut, a repository that is opened anew is the one that was there.
func TestAgainstItsWords(t *testing.T) {
	random := rand.New(rand.NewSource(14))
	kinds := map[string]int{}
	for range 200 {
		r, w := repo.New(), newWords()
		for range 150 {
			line := someLine(random)
			if random.Intn(12) == 0 {
				if err := r.Tape().Cut(random.Intn(60)); err != nil {
					t.Fatal(err)
				}
			}
			got, err := r.Do(line)
			if err == api.ErrOff {
				// It was as good as never said.
				was := r
				r = open(t, r.Tape())
				if !repo.Same(r, was) {
					t.Fatalf("%q: %q; was %q", line, stateOf(r), stateOf(was))
				}
				w.holds(t, r)
				kinds["off"]++
				continue
			}
			want, wantErr := w.do(line)
			if wantErr != nil {
				want = ""
			}
			if got != want || err != wantErr {
				t.Fatalf("%q: %q, %v; want %q, %v", line, got, err, want, wantErr)
			}
			w.holds(t, r)
			kinds[kindOf(line, got, err)]++
		}
		if !repo.Same(open(t, r.Tape()), r) {
			t.Fatal(stateOf(r))
		}
	}
	for _, kind := range []string{"off", "merge nothing", "put <nil>", "drop <nil>", "tick <nil>", "commit <nil>", "branch <nil>", "switch <nil>", "merge <nil>", "merge lammastide: clash", "forget <nil>", "sweep <nil>", "on <nil>", "was <nil>", "diff <nil>", "log <nil>"} {
		if kinds[kind] < 20 {
			t.Errorf("%s comes %d times: too few to tell", kind, kinds[kind])
		}
	}
}
