package script_test

import (
	"fmt"
	"math/rand"
	"regexp"
	"slices"
	"strconv"
	"strings"
	"sync"
	"testing"

	"lammastide/api"
	"lammastide/day"
	"lammastide/event"
	"lammastide/repo"
	"lammastide/script"
)

var (
	cutLine  = regexp.MustCompile(`^cut (0|[1-9][0-9]{0,8})$`)
	daysLine = regexp.MustCompile(`^days ([^ ]*) ([0-9]{4}-[0-9]{2}-[0-9]{2}) ([0-9]{4}-[0-9]{2}-[0-9]{2})$`)
	ownLine  = regexp.MustCompile(`^(cut|again|pack|days|texts)( |$)`)
	keptLine = regexp.MustCompile(`^(put|drop|tick|commit|branch|switch|merge|forget|sweep)( |$)`)
)

// words: a script by the words of P160 alone. Its repository's own tape never fails: what is on the script's is known by the lines that were done.
type words struct {
	repo *repo.Repo
	done []string // that are on the tape
	left int      // bytes until power fails; below 0: it does not
	off  bool
}

func newWords() *words { return &words{repo: repo.New(), left: -1} }

// back to what is on the tape.
func (w *words) back() {
	w.repo = repo.New()
	for _, line := range w.done {
		if _, err := w.repo.Do(line); err != nil {
			panic(err)
		}
	}
}

// answer to a line.
func (w *words) answer(line string) string {
	answer, err := "", error(nil)
	if ownLine.MatchString(line) {
		answer, err = w.own(line)
	} else {
		answer, err = w.do(line)
	}
	if err != nil {
		return err.Error()
	}
	return answer
}

func (w *words) do(line string) (string, error) {
	answer, err := w.repo.Do(line)
	if err != nil || !keptLine.MatchString(line) || strings.HasPrefix(line, "merge") && answer == "nothing" {
		return answer, err
	}
	if w.off || w.left >= 0 && recordSize(line) > w.left {
		w.off = true
		w.back()
		return "", api.ErrOff
	}
	if w.left >= 0 {
		w.left -= recordSize(line)
	}
	w.done = append(w.done, line)
	return answer, nil
}

func (w *words) own(line string) (string, error) {
	if m := cutLine.FindStringSubmatch(line); m != nil {
		if w.off {
			return "", api.ErrOff
		}
		w.left, _ = strconv.Atoi(m[1])
		return "ok", nil
	}
	if m := daysLine.FindStringSubmatch(line); m != nil {
		return w.days(m[1], m[2], m[3])
	}
	texts := w.repo.Graph().Pool()
	switch line {
	case "again":
		w.left, w.off = -1, false
		w.back()
		return "ok", nil
	case "pack":
		most := 0
		for n := range texts.Len() {
			s, _ := texts.Get(n)
			most += len(fmt.Sprintf("%d:%s\n", len(s), s)) + 1
		}
		return strconv.Itoa(most), nil
	case "texts":
		return strconv.Itoa(texts.Len()), nil
	}
	return "", api.ErrText
}

// days one by one: an event that is made one day long covers just its days.
func (w *words) days(id, fromText, toText string) (string, error) {
	from, err := day.Read(fromText)
	if err != nil {
		return "", err
	}
	to, err := day.Read(toText)
	if err != nil {
		return "", err
	}
	e, is := w.repo.Work().Get(id)
	if !is {
		return "", api.ErrNone
	}
	e.Long = 1
	var list []string
	for d := from; d <= to; d++ {
		if event.Covers(e, d) {
			list = append(list, day.Text(d))
		}
	}
	if len(list) == 0 {
		return "nothing", nil
	}
	if len(list) > api.MaxList {
		return "", api.ErrFull
	}
	return strings.Join(list, " "), nil
}

// pick one of a list.
func pick(random *rand.Rand, list ...string) string { return list[random.Intn(len(list))] }

// someLine of any kind.
func someLine(random *rand.Rand) string {
	name, id := pick(random, "main", "b", "zz", "B"), pick(random, "x", "y", "nothing")
	from, to := pick(random, "2000-01-01", "2000-01-12", "2000-01-12", "2000-02-30"), pick(random, "2000-01-19", "2000-02-09", "2001-12-31", "2000-01-1x", "2200-01-01")
	switch random.Intn(14) {
	case 0, 1, 2:
		return "put " + id + "|" + pick(random, "", "A", "B  b ") + "|2000-01-05|" + pick(random, "1", "9", "61") + "|" + pick(random, "once", "weekly 1", "daily 3 count 9") + "|" + pick(random, "", "2000-01-11", "2000-01-12") + "|" + pick(random, "", "2000-01-19>2000-01-20", "2000-01-17>2000-01-14")
	case 3:
		return "drop " + id
	case 4:
		return "tick " + pick(random, "0", "7", "x")
	case 5, 6:
		return "commit " + pick(random, "", "n", "some words")
	case 7:
		return pick(random, "branch ", "switch ", "merge ", "forget ") + name
	case 8:
		return pick(random, "log", "head", "sweep", "diff "+name, "on "+from, "was "+name+" 7 "+from)
	case 9, 10:
		return "days " + id + " " + from + " " + to
	case 11:
		return "cut " + pick(random, strconv.Itoa(random.Intn(90)), strconv.Itoa(random.Intn(90)), "x", "07", "-1", "1 2")
	case 12:
		return pick(random, "pack", "texts", "pack", "texts", "pack 1", "texts ")
	}
	return pick(random, "again", "again", "again ", "what", "")
}

// someScript of lines of any kind.
func someScript(random *rand.Rand) []string {
	lines := make([]string, random.Intn(api.MaxLines+1))
	for i := range lines {
		lines[i] = someLine(random)
	}
	return lines
}

// kindOf a line and its answer.
func kindOf(line, answer string) string {
	verb, _, _ := strings.Cut(line, " ")
	if strings.HasPrefix(answer, "lammastide: ") {
		return verb + " " + answer
	}
	return verb
}

// TestAgainstItsWords: P160, over lines of any kind, with power that is cut between them.
func TestAgainstItsWords(t *testing.T) {
	random := rand.New(rand.NewSource(16))
	kinds := map[string]int{}
	for range 400 {
		lines, w := someScript(random), newWords()
		for i, got := range answersTo(t, lines) {
			if want := w.answer(lines[i]); got != want {
				t.Fatalf("%d of %q: %q; want %q", i, lines, got, want)
			}
			kinds[kindOf(lines[i], got)]++
		}
	}
	// That the lines were of all these kinds, so that the test is of worth.
	for _, kind := range []string{
		"cut", "cut " + errText, "cut " + errOff, "again", "again " + errText, "pack", "pack " + errText, "texts", "texts " + errText,
		"days", "days " + errText, "days " + errBound, "days " + errNone, "put " + errOff, "commit " + errOff, "tick " + errOff, "drop " + errOff,
	} {
		if kinds[kind] < 10 {
			t.Errorf("%s: %d", kind, kinds[kind])
		}
	}
}

// TestTheSame: P161, said over, with other scripts between and side by side.
func TestTheSame(t *testing.T) {
	random := rand.New(rand.NewSource(161))
	var scripts, first [][]string
	for range 40 {
		scripts = append(scripts, someScript(random))
		first = append(first, answersTo(t, scripts[len(scripts)-1]))
	}
	var all sync.WaitGroup
	for range 4 {
		all.Go(func() {
			for i := len(scripts) - 1; i >= 0; i-- {
				if got, err := script.Run(scripts[i]); !slices.Equal(got, first[i]) || err != nil {
					t.Errorf("%q: %q, %v; was %q", scripts[i], got, err, first[i])
				}
			}
		})
	}
	all.Wait()
	for i, lines := range scripts {
		// Up to any line it is answered as if no other one came behind it.
		if n := random.Intn(len(lines) + 1); !slices.Equal(answersTo(t, lines[:n]), first[i][:n]) {
			t.Errorf("%q: %q", lines[:n], first[i])
		}
	}
}
