package repo_test

import (
	"errors"
	"slices"
	"strconv"
	"strings"
	"testing"

	"lammastide/api"
	"lammastide/repo"
	"lammastide/tape"
)

// diskOf lines, each a record, with some bytes behind them.
func diskOf(t *testing.T, behind string, lines ...string) *tape.Disk {
	t.Helper()
	var all strings.Builder
	for _, line := range lines {
		all.WriteString(strconv.Itoa(len(line)) + ":" + line + "\n.")
	}
	d, err := tape.NewDisk(all.String() + behind)
	if err != nil {
		t.Fatal(err)
	}
	return d
}

func open(t *testing.T, d *tape.Disk) *repo.Repo {
	t.Helper()
	r, err := repo.Open(d)
	if err != nil {
		t.Fatal(err)
	}
	if r.Tape() != d || !d.Power() {
		t.Fatal("its tape is another one, or without power")
	}
	return r
}

// refuseOpen with a fault at just this record; and the disk is as it was.
func refuseOpen(t *testing.T, d *tape.Disk, at int, want error) {
	t.Helper()
	bytes, power := d.Bytes(), d.Power()
	r, err := repo.Open(d)
	var fault *api.Fault
	if r != nil || !errors.As(err, &fault) || fault.At != at || fault.Err != want {
		t.Errorf("%v, %v; want %v at %d", r, err, want, at)
	}
	if d.Bytes() != bytes || d.Power() != power {
		t.Errorf("%q, %v; was %q, %v", d.Bytes(), d.Power(), bytes, power)
	}
}

// TestRecords: each line that changes something is on the tape, as it is; no other one.
func TestRecords(t *testing.T) {
	kept := []says{
		{"put " + once("nothing", "a  b ", "2000-01-05"), "nothing"}, {"put " + once("nothing", "a  b ", "2000-01-05"), "nothing"}, {"tick 0", "0"}, {"commit  x ", "1"},
		{"branch b", "ok"}, {"switch b", "ok"}, {"switch b", "ok"}, {"commit ", "2"}, {"sweep", "3"}, {"sweep", "3"}, {"switch main", "ok"}, {"merge b", "2"},
		{"commit y", "3"}, {"switch b", "ok"}, {"commit z", "4"}, {"merge main", "5"}, {"drop nothing", "ok"}, {"tick 30", "30"}, {"forget main", "ok"},
	}
	not := []string{
		"head", "log", "on 2000-01-05", "was main 0 2000-01-05", "was zz 0 2000-01-05", "diff main", "diff zz", "merge zz", "forget zz", "drop zz",
		"branch main x", "branch B", "switch zz", "tick x", "put x", "commit \n", "", "x",
	}
	r, lines := repo.New(), []string(nil)
	for i, c := range kept {
		play(t, r, c)
		lines = append(lines, c.line)
		for _, line := range append(not, "merge "+r.Head()) {
			r.Do(line)
		}
		if got := recordsOf(t, r); !slices.Equal(got, lines) {
			t.Fatalf("%d: %q; want %q", i, got, lines)
		}
		if anew := open(t, diskOf(t, "", lines...)); !repo.Same(anew, r) {
			t.Fatalf("%d: %q; want %q", i, stateOf(anew), stateOf(r))
		}
	}
}

// changing lines of what apart makes: none of them is refused, but for the tape.
func changing() []string {
	return []string{"put " + once("a", "", "2000-01-05"), "drop a", "tick 0", "tick 7", "commit ", "branch x", "switch main", "switch b", "merge main", "forget main", "sweep"}
}

func TestOff(t *testing.T) {
	r := apart(t)
	play(t, r, says{"branch c", "ok"})
	ahead, bytes := stateOf(r), r.Tape().Bytes()
	if err := r.Tape().Cut(0); err != nil {
		t.Fatal(err)
	}
	// With the first of them power goes; and it stays off.
	for _, line := range changing() {
		refuse(t, r, fails{line, api.ErrOff})
	}
	// What is wrong with a line comes first, and what changes nothing needs no power.
	refuse(t, r, fails{"drop zz", api.ErrNone}, fails{"x", api.ErrText}, fails{"forget b", api.ErrShape}, fails{"branch c", api.ErrExist}, fails{"put a||2000-01-05|0|once||", api.ErrBound})
	play(t, r, says{"head", "b"}, says{"log", "5 1"}, says{"on 2000-01-05", "a"}, says{"was main 3 2000-01-05", "a c"}, says{"diff main", "a.title c.all"}, says{"merge c", "nothing"}, says{"merge b", "nothing"})
	if stateOf(r) != ahead || r.Tape().Bytes() != bytes || r.Tape().Power() {
		t.Error(stateOf(r))
	}
	r.Tape().On()
	play(t, r, says{"merge main", "7"})
}

// TestCutAtEachByte of a line's record: done it is, or not at all, and what is opened anew says the same.
func TestCutAtEachByte(t *testing.T) {
	for _, line := range changing() {
		record := strconv.Itoa(len(line)) + ":" + line + "\n."
		for cut := range len(record) + 1 {
			r, twin := apart(t), apart(t)
			bytes := r.Tape().Bytes()
			if err := r.Tape().Cut(cut); err != nil {
				t.Fatal(err)
			}
			answer, err := r.Do(line)
			if cut < len(record) {
				if answer != "" || err != api.ErrOff || r.Tape().Bytes() != bytes+record[:cut] {
					t.Fatalf("%q, %d: %q, %v", line, cut, answer, err)
				}
			} else if want, _ := twin.Do(line); answer != want || err != nil {
				t.Fatalf("%q, %d: %q, %v", line, cut, answer, err)
			}
			if !repo.Same(r, twin) || !repo.Same(open(t, r.Tape()), twin) {
				t.Fatalf("%q, %d: %q", line, cut, stateOf(r))
			}
		}
	}
}

// TestOnWithoutOpen: the same repository goes on behind a cut, and is there when it is opened.
func TestOnWithoutOpen(t *testing.T) {
	r, twin := apart(t), apart(t)
	for cut := range 12 {
		if err := r.Tape().Cut(cut); err != nil {
			t.Fatal(err)
		}
		if _, err := r.Do("tick 123456"); err != api.ErrOff {
			t.Fatal(err)
		}
		r.Tape().On()
		line := "tick " + strconv.Itoa(cut)
		want, _ := twin.Do(line)
		play(t, r, says{line, want})
	}
	if !repo.Same(r, twin) || !repo.Same(open(t, r.Tape()), twin) {
		t.Error(stateOf(r))
	}
}

// TestFullTape: a record that just has room is written; one that has not is refused, and changes nothing.
func TestFullTape(t *testing.T) {
	lines := slices.Repeat([]string{"tick 0"}, (api.MaxBytes-16)/10)
	r := open(t, diskOf(t, "", lines...))
	if left := api.MaxBytes - len(r.Tape().Bytes()); left != 16 {
		t.Fatal(left)
	}
	refuse(t, r, fails{"tick 1234567", api.ErrFull}, fails{"put " + once("a", "", "2000-01-05"), api.ErrFull}, fails{"commit 12345", api.ErrFull}, fails{"drop a", api.ErrNone})
	play(t, r, says{"tick 123456", "123456"})
	refuse(t, r, fails{"tick 0", api.ErrFull}, fails{"sweep", api.ErrFull}, fails{"commit ", api.ErrFull}, fails{"x", api.ErrText}, fails{"tick x", api.ErrText})
	play(t, r, says{"head", "main"}, says{"on 2000-01-01", "nothing"})
	if len(r.Tape().Bytes()) != api.MaxBytes || !repo.Same(open(t, r.Tape()), r) {
		t.Error(len(r.Tape().Bytes()))
	}
}

func TestOpen(t *testing.T) {
	d := diskOf(t, "")
	r := open(t, d)
	if !repo.Same(r, repo.New()) || d.Bytes() != "" {
		t.Error(stateOf(r))
	}
	play(t, r, says{"tick 5", "5"})
	if d.Bytes() != "6:tick 5\n." {
		t.Errorf("%q", d.Bytes())
	}
	// What was done is not written again.
	if anew := open(t, d); !repo.Same(anew, r) || d.Bytes() != "6:tick 5\n." {
		t.Errorf("%q", d.Bytes())
	}
	if r, err := repo.Open(nil); r != nil || err != api.ErrShape {
		t.Error(r, err)
	}
}

// TestOpenBehindACut: power is there again, no cut waits, and what is no record goes.
func TestOpenBehindACut(t *testing.T) {
	for _, behind := range []string{"", "6", "6:tick 7", "6:tick 7\n", "06:tick 7\n.", "x", "\x00", ".", "7:tick 7\n.6:tick 7\n."} {
		d := diskOf(t, behind, "tick 5")
		if err := d.Cut(3); err != nil {
			t.Fatal(err)
		}
		r := open(t, d)
		if d.Bytes() != "6:tick 5\n." || r.Now() != 5 {
			t.Errorf("%q: %q, %d", behind, d.Bytes(), r.Now())
		}
		play(t, r, says{"tick 7", "12"})
		if d.Bytes() != "6:tick 5\n.6:tick 7\n." {
			t.Errorf("%q: %q", behind, d.Bytes())
		}
	}
}

func TestOpenRefuses(t *testing.T) {
	commits := []string{"commit x", "branch b"}
	for _, c := range []struct {
		lines []string
		at    int
		want  error
	}{
		{[]string{""}, 0, api.ErrText},
		{[]string{"x", "tick 1"}, 0, api.ErrText},
		{[]string{"tick 1", "tick 01", "x"}, 1, api.ErrText},
		{[]string{"branch b"}, 0, api.ErrNone},
		{[]string{"tick 1", "put a||2000-01-05|0|once||"}, 1, api.ErrBound},
		{[]string{"put " + once("a", "", "2000-01-05"), "drop a", "drop a"}, 2, api.ErrNone},
		{append(commits, "branch b"), 2, api.ErrExist},
		{append(commits, "branch B"), 2, api.ErrName},
		{append(commits, "forget b", "forget main"), 3, api.ErrShape},
		{append(commits, "on 2000-02-30"), 2, api.ErrBound},
		{slices.Repeat([]string{"tick 999999999"}, 1101), api.MaxTime / 999999999, api.ErrBound},
		{append(commits, "put "+once("a", "", "2000-01-05"), "commit ", "switch b", "put "+once("a", "", "2000-01-06"), "commit ", "merge main"), 7, api.ErrClash},
	} {
		refuseOpen(t, diskOf(t, "", c.lines...), c.at, c.want)
		refuseOpen(t, diskOf(t, "6:tick 7\n", c.lines...), c.at, c.want)
		// Without power, too, it is as it was: torn, and off.
		d := diskOf(t, "", c.lines...)
		if d.Cut(4) != nil || tape.Append(d, "tick 7") != api.ErrOff {
			t.Fatal(d.Bytes())
		}
		refuseOpen(t, d, c.at, c.want)
	}
}

// TestOpenOfQuestions: records that Do would not have written; they are done, and stay.
func TestOpenOfQuestions(t *testing.T) {
	d := diskOf(t, "", "head", "log", "commit x", "merge main", "on 2000-01-01", "diff main", "was main 0 2000-01-01", "tick 2")
	bytes := d.Bytes()
	r := open(t, d)
	if r.Now() != 2 || r.Refs().Text() != "main 0:1\n" || d.Bytes() != bytes {
		t.Error(stateOf(r))
	}
}
