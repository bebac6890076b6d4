package repo_test

import (
	"errors"
	"fmt"
	"strconv"
	"strings"
	"testing"

	"lammastide/api"
	"lammastide/commit"
	"lammastide/repo"
	"lammastide/tape"
)

// says: a line, and its answer.
type says struct{ line, want string }

// fails: a line, and its error.
type fails struct {
	line string
	want error
}

// play lines, each of which is answered so.
func play(t *testing.T, r *repo.Repo, lines ...says) {
	t.Helper()
	for _, c := range lines {
		if got, err := r.Do(c.line); got != c.want || err != nil {
			t.Fatalf("%q: %q, %v; want %q", c.line, got, err, c.want)
		}
	}
}

// refuse lines: each with just this error, bare; and nothing changes, nor is anything written.
func refuse(t *testing.T, r *repo.Repo, lines ...fails) {
	t.Helper()
	ahead, bytes := stateOf(r), r.Tape().Bytes()
	for _, c := range lines {
		if got, err := r.Do(c.line); got != "" || err != c.want {
			t.Errorf("%.60q: %q, %v; want %v", c.line, got, err, c.want)
		}
		if now := stateOf(r); now != ahead {
			t.Fatalf("%.60q: it is %q; was %q", c.line, now, ahead)
		}
		if r.Tape().Bytes() != bytes {
			t.Fatalf("%.60q: it is on the tape", c.line)
		}
	}
}

// stateOf a repo: all that can be asked, the tape aside.
func stateOf(r *repo.Repo) string {
	return fmt.Sprintf("%s\n%d\n%s\n%s\n%s", r.Head(), r.Now(), r.Work().Text(), r.Refs().Text(), r.Graph().Pool().Text())
}

// recordsOf a tape: just the lines that are kept.
func recordsOf(t *testing.T, r *repo.Repo) []string {
	t.Helper()
	records, size := tape.Read(r.Tape().Bytes())
	if size != len(r.Tape().Bytes()) {
		t.Fatalf("%q", r.Tape().Bytes())
	}
	return records
}

// once: an event of one day, as text.
func once(id, title, date string) string { return id + "|" + title + "|" + date + "|1|once||" }

// apart: two branches, main and b, that have one commit in common and one each of their own; b is the HEAD.
func apart(t *testing.T) *repo.Repo {
	t.Helper()
	r := repo.New()
	play(t, r,
		says{"put " + once("a", "x", "2000-01-05"), "a"}, says{"commit one", "1"}, says{"branch b", "ok"},
		says{"tick 3", "3"}, says{"put " + once("c", "", "2000-01-05"), "c"}, says{"commit two", "3"},
		says{"switch b", "ok"}, says{"tick 2", "5"}, says{"put " + once("a", "y", "2000-01-05"), "a"}, says{"commit three", "5"})
	return r
}

func TestNew(t *testing.T) {
	r := repo.New()
	if r.Head() != "main" || r.Now() != 0 || r.Tape().Bytes() != "" || !r.Tape().Power() {
		t.Error(r.Head(), r.Now(), r.Tape().Bytes(), r.Tape().Power())
	}
	if r.Work().Text() != "" || r.Refs().Text() != "" || r.Graph().Pool().Len() != 0 {
		t.Error(stateOf(r))
	}
	play(t, r, says{"head", "main"}, says{"log", "nothing"}, says{"on 2000-01-01", "nothing"}, says{"sweep", "0"})
	other := repo.New()
	play(t, other, says{"tick 1", "1"}, says{"put " + once("a", "", "2000-01-05"), "a"}, says{"commit ", "1"})
	if r.Now() != 0 || r.Work().Text() != "" || r.Refs().Text() != "" || r.Graph().Pool().Len() != 0 || r.Tape() == other.Tape() {
		t.Error("two of them have something in common")
	}
}

// TestNoSuchLine: what is none of the lines, ahead of every other error.
func TestNoSuchLine(t *testing.T) {
	r := apart(t)
	for _, line := range []string{
		"", " ", "\n", "\x00", "\xff", "what", "what now", "HEAD", "Head", "heads", "hea",
		"head ", " head", "head b", "head\n", "log ", "log b", "log  ", "sweep ", "sweep 1", "sweep\t",
		"put", "drop", "tick", "commit", "branch", "switch", "merge", "forget", "on", "was", "diff",
		"put\ta", "putx", "commitx", "Commit x", "commit\nx",
		"drop a b", "drop a ", "drop  a", "branch x y", "branch x ", "branch  x", "switch main x", "switch main ", "switch  main",
		"merge main x", "merge main ", "forget main x", "forget main ", "forget b b", "diff main b", "diff main ",
		"tick ", "tick x", "tick -1", "tick +1", "tick 01", "tick 00", "tick 1 ", "tick  1", "tick 1 1", "tick 1.0", "tick 1000000000", "tick 0000000001", "tick １", "tick 1\n",
		"on ", "on x", "on 2000-1-1", "on 2000-01-01 ", "on  2000-01-01", "on 2000-01-01 2000-01-01", "on 20000101",
		"was ", "was main", "was main 1", "was main 2000-01-01", "was main 1 2000-01-01 ", "was main 1 2000-01-01 x", "was  main 1 2000-01-01", "was main  1 2000-01-01",
		"was main x 2000-01-01", "was main -1 2000-01-01", "was main 01 2000-01-01", "was main 1000000000 2000-01-01", "was main  2000-01-01", "was main 1 2000-1-1", "was main 1 ",
		// N is none, whatever else is wrong.
		"was zz x 2000-01-32", "was zz 1 2000-1-32",
		strings.Repeat("x", 20000), "drop " + strings.Repeat("a ", 20000),
	} {
		refuse(t, r, fails{line, api.ErrText})
		refuse(t, repo.New(), fails{line, api.ErrText})
	}
}

func TestPut(t *testing.T) {
	r := repo.New()
	play(t, r,
		says{"put a|The Fair|2000-01-05|3|weekly 2 mo,we count 9|2000-01-17|2000-01-19>2000-01-20", "a"},
		says{"put c0||2000-01-13|1|once||", "c0"}, says{"put a| |2000-01-05|1|once||", "a"})
	if got := r.Work().Text(); got != "a| |2000-01-05|1|once||\nc0||2000-01-13|1|once||\n" {
		t.Errorf("%q", got)
	}
	refuse(t, r,
		fails{"put ", api.ErrText}, fails{"put a", api.ErrText}, fails{"put a|x|2000-01-05|1|once|", api.ErrText},
		fails{"put  a||2000-01-05|1|once||", api.ErrName}, fails{"put A||2000-01-05|1|once||", api.ErrName}, fails{"put ||2000-01-05|1|once||", api.ErrName},
		fails{"put a||2000-01-05|0|once||", api.ErrBound}, fails{"put a||2000-02-30|1|once||", api.ErrBound}, fails{"put a||2000-01-05|1|once|| ", api.ErrText},
		fails{"put a||2000-01-05|1|weekly 1 we,mo||", api.ErrOrder}, fails{"put a||2000-01-05|1|daily 1 mo||", api.ErrShape},
		fails{"put a||2000-01-05|1|once|2000-01-05|2000-01-05>2000-01-06", api.ErrExist})
	for i := range api.MaxEvents - 2 {
		play(t, r, says{"put " + once(fmt.Sprintf("x%02d", i), "", "2000-01-05"), fmt.Sprintf("x%02d", i)})
	}
	refuse(t, r, fails{"put " + once("y", "", "2000-01-05"), api.ErrFull}, fails{"put y||2000-01-05|0|once||", api.ErrBound})
	play(t, r, says{"put " + once("x07", "again", "2000-01-05"), "x07"}, says{"drop c0", "ok"}, says{"put " + once("y", "", "2000-01-05"), "y"})
}

func TestDrop(t *testing.T) {
	r := repo.New()
	play(t, r, says{"put " + once("a", "", "2000-01-05"), "a"}, says{"put " + once("b", "", "2000-01-05"), "b"})
	refuse(t, r, fails{"drop c", api.ErrNone}, fails{"drop A", api.ErrNone}, fails{"drop ", api.ErrNone}, fails{"drop a|", api.ErrNone})
	play(t, r, says{"drop a", "ok"}, says{"on 2000-01-05", "b"})
	refuse(t, r, fails{"drop a", api.ErrNone})
	play(t, r, says{"drop b", "ok"}, says{"on 2000-01-05", "nothing"})
}

func TestTick(t *testing.T) {
	r := repo.New()
	play(t, r, says{"tick 0", "0"}, says{"tick 7", "7"}, says{"tick 0", "7"}, says{"tick 10", "17"}, says{"tick 999999999", "1000000016"})
	if r.Now() != 1000000016 {
		t.Error(r.Now())
	}
	for r.Now()+999999999 <= api.MaxTime {
		play(t, r, says{"tick 999999999", strconv.Itoa(r.Now() + 999999999)})
	}
	left := api.MaxTime - r.Now()
	refuse(t, r, fails{"tick 999999999", api.ErrBound}, fails{"tick " + strconv.Itoa(left+1), api.ErrBound})
	play(t, r, says{"tick " + strconv.Itoa(left), strconv.Itoa(api.MaxTime)}, says{"tick 0", strconv.Itoa(api.MaxTime)})
	refuse(t, r, fails{"tick 1", api.ErrBound}, fails{"tick 01", api.ErrText})
	// It is a time as good as any.
	play(t, r, says{"commit late", "1"}, says{"branch b", "ok"})
}

func TestCommit(t *testing.T) {
	r := repo.New()
	play(t, r, says{"tick 4", "4"}, says{"commit first of all ", "1"})
	hasCommit(t, r, 1, commit.Commit{Tree: 0, At: 4, Note: "first of all "}, "")
	play(t, r, says{"put " + once("a", "", "2000-01-05"), "a"})
	hasCommit(t, r, 1, commit.Commit{Tree: 0, At: 4, Note: "first of all "}, "")
	play(t, r, says{"commit  ", "3"})
	hasCommit(t, r, 3, commit.Commit{Tree: 2, Parents: []int{1}, At: 4, Note: " "}, once("a", "", "2000-01-05")+"\n")
	// Of the same calendar, and even of one that was there before; and the work is as it was.
	play(t, r, says{"commit " + strings.Repeat("~", api.MaxNote), "4"}, says{"drop a", "ok"}, says{"tick 1", "5"}, says{"commit ", "5"})
	hasCommit(t, r, 5, commit.Commit{Tree: 0, Parents: []int{4}, At: 5}, "")
	if got := r.Refs().Text(); got != "main 4:1 4:3 4:4 5:5\n" {
		t.Errorf("%q", got)
	}
	refuse(t, r, fails{"commit \n", api.ErrText}, fails{"commit a\x7f", api.ErrText}, fails{"commit é", api.ErrText}, fails{"commit " + strings.Repeat("x", api.MaxNote+1), api.ErrText})
}

// hasCommit: the graph has it so, with this calendar.
func hasCommit(t *testing.T, r *repo.Repo, n int, want commit.Commit, calendar string) {
	t.Helper()
	c, err := r.Graph().Get(n)
	if err != nil || commit.Text(c) != commit.Text(want) {
		t.Fatal(c, err)
	}
	if b, err := r.Graph().Book(n); err != nil || b.Text() != calendar {
		t.Fatalf("%q, %v", b.Text(), err)
	}
}

// TestCommitOfTooMuch: a calendar's text that no pool takes.
func TestCommitOfTooMuch(t *testing.T) {
	r := repo.New()
	var skips []string
	for i := range api.MaxSkips {
		skips = append(skips, fmt.Sprintf("2000-03-%02d", i+1))
	}
	for i := range 40 {
		play(t, r, says{fmt.Sprintf("put x%02d|%s|2000-01-05|1|once|%s|", i, strings.Repeat("x", api.MaxTitle), strings.Join(skips, ",")), fmt.Sprintf("x%02d", i)})
	}
	refuse(t, r, fails{"commit ", api.ErrBound}, fails{"commit \n", api.ErrText}, fails{"branch b", api.ErrNone})
	play(t, r, says{"log", "nothing"}, says{"sweep", "0"})
}

// TestFullGraph: with no room for one more text nothing is committed or merged, and all else goes on.
func TestFullGraph(t *testing.T) {
	r := apart(t)
	for n := r.Graph().Pool().Len(); n < api.MaxTexts; n++ {
		play(t, r, says{"commit " + strconv.Itoa(n), strconv.Itoa(n)})
	}
	refuse(t, r, fails{"commit x", api.ErrFull}, fails{"merge main", api.ErrFull})
	play(t, r, says{"sweep", strconv.Itoa(api.MaxTexts)}, says{"branch c", "ok"}, says{"switch main", "ok"}, says{"on 2000-01-05", "a c"})
	// Room for a calendar's text would not do.
	play(t, r, says{"drop a", "ok"})
	refuse(t, r, fails{"commit x", api.ErrFull})
}

func TestBranch(t *testing.T) {
	r := repo.New()
	refuse(t, r, fails{"branch b", api.ErrNone}, fails{"branch main", api.ErrNone}, fails{"branch B", api.ErrNone}, fails{"branch ", api.ErrNone})
	play(t, r, says{"commit ", "1"}, says{"tick 2", "2"}, says{"put " + once("a", "", "2000-01-05"), "a"}, says{"branch b", "ok"}, says{"head", "main"})
	refuse(t, r, fails{"branch b", api.ErrExist}, fails{"branch main", api.ErrExist}, fails{"branch B", api.ErrName}, fails{"branch ", api.ErrName}, fails{"branch abcdefghijklm", api.ErrName})
	if got := r.Refs().Text(); got != "b 2:1\nmain 0:1\n" {
		t.Errorf("%q", got)
	}
	play(t, r, says{"on 2000-01-05", "a"}, says{"commit ", "3"}, says{"branch abcdefghijkl", "ok"}, says{"branch 0", "ok"}, says{"diff b", "a.all"}, says{"diff 0", "nothing"})
	for i := len(r.Refs().Names()); i < api.MaxRefs; i++ {
		play(t, r, says{"branch n" + strconv.Itoa(i), "ok"})
	}
	refuse(t, r, fails{"branch more", api.ErrFull}, fails{"branch b", api.ErrExist}, fails{"branch B", api.ErrName})
	play(t, r, says{"forget b", "ok"}, says{"branch more", "ok"})
	refuse(t, r, fails{"branch b", api.ErrFull})
}

func TestSwitch(t *testing.T) {
	r := repo.New()
	refuse(t, r, fails{"switch main", api.ErrNone}, fails{"switch b", api.ErrNone}, fails{"switch ", api.ErrNone}, fails{"switch B", api.ErrNone})
	play(t, r, says{"commit ", "1"}, says{"branch b", "ok"}, says{"put " + once("a", "", "2000-01-05"), "a"}, says{"commit ", "3"})
	play(t, r, says{"switch b", "ok"}, says{"head", "b"}, says{"on 2000-01-05", "nothing"}, says{"log", "1"})
	play(t, r, says{"switch main", "ok"}, says{"head", "main"}, says{"on 2000-01-05", "a"}, says{"log", "3 1"})
	// What was not committed goes, also where the HEAD stays.
	play(t, r, says{"drop a", "ok"}, says{"switch main", "ok"}, says{"on 2000-01-05", "a"})
	refuse(t, r, fails{"switch c", api.ErrNone}, fails{"switch 3", api.ErrNone}, fails{"switch Main", api.ErrNone})
	play(t, r, says{"forget b", "ok"})
	refuse(t, r, fails{"switch b", api.ErrNone})
}

func TestMergeNothing(t *testing.T) {
	r := repo.New()
	refuse(t, r, fails{"merge main", api.ErrNone}, fails{"merge b", api.ErrNone}, fails{"merge ", api.ErrNone})
	play(t, r, says{"commit ", "1"}, says{"branch b", "ok"}, says{"put " + once("a", "", "2000-01-05"), "a"}, says{"commit ", "3"}, says{"drop a", "ok"})
	bytes, ahead := r.Tape().Bytes(), stateOf(r)
	play(t, r, says{"merge b", "nothing"}, says{"merge main", "nothing"})
	if r.Tape().Bytes() != bytes || stateOf(r) != ahead {
		t.Error("something was written, or changed: what was worked on, too, stays")
	}
	refuse(t, r, fails{"merge c", api.ErrNone}, fails{"merge B", api.ErrNone})
}

// TestMergeOn: the HEAD is an ancestor, and goes on to what the other one is.
func TestMergeOn(t *testing.T) {
	r := repo.New()
	play(t, r, says{"commit ", "1"}, says{"branch b", "ok"}, says{"put " + once("a", "", "2000-01-05"), "a"}, says{"commit ", "3"},
		says{"tick 6", "6"}, says{"switch b", "ok"}, says{"put " + once("c", "", "2000-01-05"), "c"}, says{"merge main", "3"}, says{"head", "b"}, says{"log", "3 1"})
	if got := r.Refs().Text(); got != "b 0:1 6:3\nmain 0:1 0:3\n" || r.Graph().Pool().Len() != 4 {
		t.Errorf("%q", got)
	}
	// What was not committed goes.
	play(t, r, says{"on 2000-01-05", "a"}, says{"merge main", "nothing"})
}

func TestMergeTwo(t *testing.T) {
	r := apart(t)
	play(t, r, says{"tick 1", "6"}, says{"put " + once("gone", "", "2000-01-05"), "gone"}, says{"merge main", "7"}, says{"on 2000-01-05", "a c"}, says{"head", "b"})
	hasCommit(t, r, 7, commit.Commit{Tree: 6, Parents: []int{5, 3}, At: 6, Note: "merge main"}, once("a", "y", "2000-01-05")+"\n"+once("c", "", "2000-01-05")+"\n")
	if got := r.Refs().Text(); got != "b 0:1 5:5 6:7\nmain 0:1 3:3\n" {
		t.Errorf("%q", got)
	}
	play(t, r, says{"log", "7 5 3 1"}, says{"merge main", "nothing"}, says{"switch main", "ok"}, says{"merge b", "7"}, says{"merge b", "nothing"})
}

func TestMergeClash(t *testing.T) {
	r := apart(t)
	play(t, r, says{"switch main", "ok"}, says{"put " + once("a", "z", "2000-01-05"), "a"}, says{"commit four", "7"}, says{"put " + once("d", "", "2000-01-05"), "d"})
	refuse(t, r, fails{"merge b", api.ErrClash})
	play(t, r, says{"on 2000-01-05", "a c d"}, says{"put " + once("a", "y", "2000-01-05"), "a"}, says{"commit five", "9"}, says{"merge b", "10"})
}

func TestForget(t *testing.T) {
	r := repo.New()
	// It is the HEAD, though it is not there.
	refuse(t, r, fails{"forget main", api.ErrShape}, fails{"forget b", api.ErrNone}, fails{"forget B", api.ErrName}, fails{"forget ", api.ErrName})
	play(t, r, says{"commit ", "1"}, says{"branch b", "ok"}, says{"tick 3", "3"})
	refuse(t, r, fails{"forget main", api.ErrShape}, fails{"forget c", api.ErrNone}, fails{"forget Main", api.ErrName})
	play(t, r, says{"forget b", "ok"})
	refuse(t, r, fails{"forget b", api.ErrNone}, fails{"diff b", api.ErrNone}, fails{"was b 3 2000-01-01", api.ErrNone})
	play(t, r, says{"was b 2 2000-01-01", "nothing"}, says{"branch b", "ok"}, says{"switch b", "ok"}, says{"forget main", "ok"})
	refuse(t, r, fails{"forget b", api.ErrShape}, fails{"forget main", api.ErrNone}, fails{"merge main", api.ErrNone})
	if got := r.Refs().Text(); got != "b 0:1 3:- 3:1\nmain 0:1 3:-\n" {
		t.Errorf("%q", got)
	}
}

// TestSweep: whatever was committed, some name is or was at it, so all texts are left.
func TestSweep(t *testing.T) {
	r := apart(t)
	ahead := stateOf(r)
	play(t, r, says{"sweep", "6"})
	if stateOf(r) != ahead {
		t.Errorf("%q", stateOf(r))
	}
	play(t, r, says{"tick 1", "6"}, says{"switch main", "ok"}, says{"forget b", "ok"}, says{"sweep", "6"}, says{"was b 5 2000-01-05", "a"},
		says{"log", "3 1"}, says{"commit on", "6"}, says{"sweep", "7"}, says{"log", "6 3 1"})
}

func TestOn(t *testing.T) {
	r := repo.New()
	play(t, r, says{"put b||2000-01-05|3|weekly 1||", "b"}, says{"put a||2000-01-07|1|once||", "a"}, says{"put z||2199-12-31|1|once||", "z"})
	play(t, r, says{"on 2000-01-05", "b"}, says{"on 2000-01-07", "a b"}, says{"on 2000-01-08", "nothing"}, says{"on 2199-12-31", "z"}, says{"on 2000-01-01", "nothing"})
	refuse(t, r, fails{"on 2000-02-30", api.ErrBound}, fails{"on 2000-13-01", api.ErrBound}, fails{"on 1999-12-31", api.ErrBound}, fails{"on 2200-01-01", api.ErrBound})
}

func TestWas(t *testing.T) {
	r := repo.New()
	play(t, r, says{"tick 5", "5"}, says{"put " + once("a", "", "2000-01-05"), "a"}, says{"commit ", "1"}, says{"tick 5", "10"}, says{"put " + once("b", "", "2000-01-05"), "b"}, says{"commit ", "3"}, says{"drop a", "ok"})
	play(t, r, says{"was main 5 2000-01-05", "a"}, says{"was main 9 2000-01-05", "a"}, says{"was main 10 2000-01-05", "a b"}, says{"was main 999999999 2000-01-05", "a b"}, says{"was main 7 2000-01-06", "nothing"})
	refuse(t, r, fails{"was main 4 2000-01-05", api.ErrNone}, fails{"was main 0 2000-01-05", api.ErrNone}, fails{"was b 10 2000-01-05", api.ErrNone}, fails{"was B 10 2000-01-05", api.ErrNone}, fails{"was  10 2000-01-05", api.ErrNone},
		fails{"was main 10 2000-01-32", api.ErrBound}, fails{"was b 10 2000-01-32", api.ErrBound})
	// The last of one time.
	play(t, r, says{"commit ", "5"}, says{"was main 10 2000-01-05", "b"})
}

func TestLog(t *testing.T) {
	r := apart(t)
	play(t, r, says{"log", "5 1"}, says{"merge main", "7"}, says{"log", "7 5 3 1"}, says{"switch main", "ok"}, says{"log", "3 1"})
}

func TestDiff(t *testing.T) {
	r := apart(t)
	play(t, r, says{"diff b", "nothing"}, says{"diff main", "a.title c.all"},
		says{"put a||2000-01-06|2|daily 1 count 2|2000-01-09|2000-01-07>2000-01-08", "a"}, says{"put 0||2000-01-06|2|once||", "0"},
		says{"diff b", "0.all a.title a.start a.long a.rule a.skips a.moves"}, says{"drop a", "ok"}, says{"diff main", "0.all a.all c.all"})
	refuse(t, r, fails{"diff c", api.ErrNone}, fails{"diff B", api.ErrNone}, fails{"diff ", api.ErrNone})
}

// TestWhatIsAnsweredIsNew: nobody sees what is done to an answer, the tape's aside.
func TestWhatIsAnsweredIsNew(t *testing.T) {
	r := apart(t)
	ahead := stateOf(r)
	if r.Work().Drop("a") != nil || r.Refs().Drop("main", 3, 9) != nil {
		t.Fatal("not there")
	}
	if _, err := r.Graph().Add(nil, []int{5}, 9, "more"); err != nil {
		t.Fatal(err)
	}
	if _, err := r.Graph().Pool().Put("more"); err != nil || stateOf(r) != ahead {
		t.Error(err, stateOf(r))
	}
	// And what was answered stays as it was.
	work, names, graph := r.Work(), r.Refs(), r.Graph()
	play(t, r, says{"tick 1", "6"}, says{"merge main", "7"}, says{"forget main", "ok"}, says{"drop a", "ok"})
	if work.Text() != once("a", "y", "2000-01-05")+"\n" || names.Text() != "b 0:1 5:5\nmain 0:1 3:3\n" || graph.Pool().Len() != 6 {
		t.Error(work.Text(), names.Text(), graph.Pool().Len())
	}
	if r.Tape() != r.Tape() {
		t.Error("it is not its own")
	}
}

func TestSame(t *testing.T) {
	if a, b := apart(t), apart(t); !repo.Same(a, b) || !repo.Same(b, a) || !repo.Same(a, a) {
		t.Error("they are not")
	}
	if !repo.Same(repo.New(), repo.New()) || !repo.Same(nil, nil) || repo.Same(nil, repo.New()) || repo.Same(apart(t), nil) {
		t.Error("empty, or none")
	}
	for _, lines := range [][]string{
		{"tick 1"}, {"switch main"}, {"put " + once("e", "", "2000-01-05")}, {"drop a"}, {"branch c"}, {"forget main"}, {"commit more"},
		// What was ahead counts, also where all is now as it was.
		{"branch c", "forget c"},
	} {
		a, b := apart(t), apart(t)
		for _, line := range lines {
			if _, err := b.Do(line); err != nil {
				t.Fatal(line, err)
			}
		}
		if repo.Same(a, b) || repo.Same(b, a) {
			t.Errorf("%q", lines)
		}
	}
	// The HEAD alone.
	a, b := repo.New(), repo.New()
	play(t, a, says{"commit ", "1"}, says{"branch b", "ok"})
	play(t, b, says{"commit ", "1"}, says{"branch b", "ok"}, says{"switch b", "ok"})
	if repo.Same(a, b) {
		t.Error("their heads are two")
	}
	// The texts alone: names and numbers are alike, but for a note.
	a, b = repo.New(), repo.New()
	play(t, a, says{"commit x", "1"})
	play(t, b, says{"commit y", "1"})
	if repo.Same(a, b) {
		t.Error("their texts are two")
	}
	// The tapes do not count.
	a, b = apart(t), apart(t)
	play(t, b, says{"tick 0", "5"})
	if err := b.Tape().Cut(0); err != nil || !repo.Same(a, b) {
		t.Error("they are not, by their tapes", err)
	}
}

// TestErrorsAreBare, whatever is called.
func TestErrorsAreBare(t *testing.T) {
	r := apart(t)
	for _, line := range []string{"x", "put x", "put a||2000-01-05|0|once||", "drop x", "branch B", "switch x", "merge x", "forget x", "forget b", "on 2000-02-30", "was x 1 2000-01-01", "diff x"} {
		_, err := r.Do(line)
		var fault *api.Fault
		if err == nil || errors.As(err, &fault) {
			t.Errorf("%q: %v", line, err)
		}
	}
}
