package script_test

import (
	"slices"
	"strconv"
	"strings"
	"testing"

	"lammastide/api"
	"lammastide/pack"
	"lammastide/repo"
	"lammastide/script"
)

const (
	errText  = "lammastide: text"
	errBound = "lammastide: bound"
	errShape = "lammastide: shape"
	errName  = "lammastide: name"
	errNone  = "lammastide: none"
	errExist = "lammastide: exist"
	errFull  = "lammastide: full"
	errOrder = "lammastide: order"
	errClash = "lammastide: clash"
	errOff   = "lammastide: off"
)

// says: a line, and what is answered to it.
type says struct{ line, want string }

// run lines, each of which is answered so.
func run(t *testing.T, script ...says) {
	t.Helper()
	var lines []string
	for _, c := range script {
		lines = append(lines, c.line)
	}
	got := answersTo(t, lines)
	for i, c := range script {
		if got[i] != c.want {
			t.Errorf("%d, %.60q: %q; want %q", i, c.line, got[i], c.want)
		}
	}
}

// answersTo lines that are not too many: one each.
func answersTo(t *testing.T, lines []string) []string {
	t.Helper()
	got, err := script.Run(lines)
	if err != nil || len(got) != len(lines) {
		t.Fatalf("%q: %q, %v", lines, got, err)
	}
	return got
}

// once: a line that puts an event of one day.
func once(id, title, date string) string {
	return "put " + id + "|" + title + "|" + date + "|1|once||"
}

// recordSize of a line on the tape.
func recordSize(line string) int { return len(strconv.Itoa(len(line))+":"+line) + 2 }

func TestRepositoryLines(t *testing.T) {
	run(t,
		says{"head", "main"}, says{"log", "nothing"}, says{"branch b", errNone}, says{once("a", "x", "2000-01-05"), "a"}, says{once("nothing", "two  words ", "2000-01-05"), "nothing"},
		says{"commit the first", "1"}, says{"branch b", "ok"}, says{"branch b", errExist}, says{"branch B", errName}, says{"tick 3", "3"}, says{"drop nothing", "ok"},
		says{"commit ", "3"}, says{"merge b", "nothing"}, says{"switch b", "ok"}, says{"on 2000-01-05", "a nothing"}, says{"was main 2 2000-01-05", "a nothing"}, says{"was main 3 2000-01-05", "a"},
		says{"diff main", "nothing.all"}, says{once("a", "y", "2000-01-05"), "a"}, says{"commit y", "5"}, says{"merge main", "7"}, says{"log", "7 5 3 1"}, says{"head", "b"},
		says{"forget b", errShape}, says{"forget main", "ok"}, says{"forget main", errNone}, says{"sweep", "8"}, says{"tick 999999999", "1000000002"},
		says{"put a|x|2000-01-05|1|daily 1|2000-01-07,2000-01-06|", errOrder}, says{"put a|x|2000-01-05|61|once||", errBound}, says{"put A|x|2000-01-05|1|once||", errName}, says{"put", errText}, says{"", errText}, says{"what", errText}, says{"\x00\xff", errText})
}

func TestClash(t *testing.T) {
	run(t,
		says{once("a", "x", "2000-01-05"), "a"}, says{"commit x", "1"}, says{"branch b", "ok"}, says{once("a", "y", "2000-01-05"), "a"}, says{"commit y", "3"},
		says{"switch b", "ok"}, says{once("a", "z", "2000-01-05"), "a"}, says{"commit z", "5"}, says{"merge main", errClash}, says{"texts", "6"}, says{"on 2000-01-05", "a"})
}

// TestFullCalendar: what is refused leaves the others.
func TestFullCalendar(t *testing.T) {
	var lines []says
	for n := range api.MaxEvents {
		id := "e" + strconv.Itoa(n)
		lines = append(lines, says{once(id, "", "2000-01-05"), id})
	}
	run(t, append(lines, says{once("x", "", "2000-01-05"), errFull}, says{"days x 2000-01-01 2000-02-01", errNone}, says{"drop e0", "ok"}, says{once("x", "", "2000-01-05"), "x"}, says{"days x 2000-01-01 2000-02-01", "2000-01-05"})...)
}

func TestHowManyLines(t *testing.T) {
	for _, lines := range [][]string{nil, {}} {
		answersTo(t, lines)
	}
	ticks := slices.Repeat([]string{"tick 1"}, 200)
	for _, n := range []int{1, 2, 79, 80} {
		if got := answersTo(t, ticks[:n]); got[n-1] != strconv.Itoa(n) {
			t.Errorf("%d: %q", n, got)
		}
	}
	for _, lines := range [][]string{ticks[:81], ticks, make([]string, 81), make([]string, 100000)} {
		if got, err := script.Run(lines); len(got) != 0 || err != api.ErrBound {
			t.Errorf("%d: %q, %v", len(lines), got, err)
		}
	}
}

// TestMadeOtherwise: lines that are nearly a command; and none of them does anything.
func TestMadeOtherwise(t *testing.T) {
	var lines []says
	for _, line := range []string{
		"cut", "cut ", "cut  5", "cut 5 ", "cut 5 5", "cut x", "cut -1", "cut +5", "cut 05", "cut 00", "cut 5.", "cut 0x5", "cut 1234567890", "cut 0000000005", "cut\t5", "cut5", "Cut 5", " cut 5", "cut 5\n", "cut \u0665",
		"again ", "again 1", "Again", " again", "again\n", "agai", "pack ", "pack 1", "Pack", " pack", "pack\n", "texts ", "texts x", "Texts", " texts", "texts\n", "text",
	} {
		lines = append(lines, says{line, errText})
	}
	run(t, append(lines, says{"tick 5", "5"}, says{"texts", "0"})...)
	lines = []says{{once("a", "", "2000-01-05"), "a"}}
	for _, line := range []string{
		"days", "days ", "days a", "days a ", "days a 2000-01-01", "days a 2000-01-01 ", "days a  2000-01-01", "days 2000-01-01 2000-01-09", "days a 2000-01-01 2000-01-09 ", "days a 2000-01-01 2000-01-09 x",
		"days  a 2000-01-01 2000-01-09", "days a 2000-01-01  2000-01-09", "days a 2000-1-1 2000-01-09", "days a 2000-01-01 2000-1-9", "days a x 2000-01-09", "days a 2000-01-01 x", "days a 2000/01/01 2000-01-09",
		"days a 02000-01-01 2000-01-09", "days a 2000-01-01 2000-01-0x", "days a 4 8", "days a -000-01-01 2000-01-09", "Days a 2000-01-01 2000-01-09", " days a 2000-01-01 2000-01-09", "days\ta 2000-01-01 2000-01-09", "days a 2000-01-01 2000-01-09\n", "days a 2000-01-01,2000-01-09",
	} {
		lines = append(lines, says{line, errText})
	}
	run(t, lines...)
}

func TestDays(t *testing.T) {
	run(t,
		says{"days a 2000-01-01 2000-12-31", errNone},
		says{"put a|x|2000-01-05|3|weekly 1|2000-01-12|2000-01-19>2000-01-20,2000-01-26>2000-01-06", "a"},
		says{"days a 2000-01-01 2000-02-03", "2000-01-05 2000-01-06 2000-01-20 2000-02-02"},
		says{"days a 2000-01-05 2000-01-20", "2000-01-05 2000-01-06 2000-01-20"}, says{"days a 2000-01-06 2000-01-19", "2000-01-06"}, says{"days a 2000-01-07 2000-01-19", "nothing"},
		says{"days a 2000-01-05 2000-01-05", "2000-01-05"}, says{"days a 2000-01-20 2000-01-05", "nothing"}, says{"days a 2000-01-01 2000-01-04", "nothing"}, says{"days a 2199-12-31 2199-12-31", "nothing"}, says{"days a 2199-12-18 2199-12-31", "2199-12-18 2199-12-25"},
		says{"days A 2000-01-01 2000-02-03", errNone}, says{"days  2000-01-01 2000-02-03", errNone}, says{"days a|x 2000-01-01 2000-02-03", errNone},
		// Asked of the work, be it committed or not.
		says{"commit one", "1"}, says{once("b", "", "2000-02-29"), "b"}, says{"days b 2000-01-01 2199-12-31", "2000-02-29"}, says{"drop a", "ok"}, says{"days a 2000-01-01 2000-02-03", errNone}, says{"switch main", "ok"},
		says{"days a 2000-01-01 2000-01-05", "2000-01-05"}, says{"days b 2000-01-01 2199-12-31", errNone}, says{once("a", "", "2000-01-07"), "a"}, says{"days a 2000-01-01 2000-02-03", "2000-01-07"},
		says{once("nothing", "", "2000-01-07"), "nothing"}, says{"days nothing 2000-01-01 2000-02-03", "2000-01-07"})
}

// TestDaysRefused: what is wrong with the line comes first, then that there is no such event, then what event.Days tells.
func TestDaysRefused(t *testing.T) {
	run(t,
		says{"put a||2000-01-01|1|daily 1||", "a"},
		says{"days a 2000-01-32 2000-02-01", errBound}, says{"days a 2000-01-01 2000-02-30", errBound}, says{"days a 1999-12-31 2000-02-01", errBound}, says{"days a 2000-01-01 2200-01-01", errBound}, says{"days a 2000-00-01 2000-13-01", errBound},
		says{"days a 2000-01-32 x", errText}, says{"days a x 2000-01-32", errText}, says{"days b 2000-01-32 x", errText}, says{"days b 2000-01-01 x", errText}, says{"days b 2000-01-32 2000-01-01", errBound}, says{"days b 2000-01-01 2000-02-30", errBound}, says{"days b 2000-01-01 2199-12-31", errNone},
		says{"days a 2000-01-01 2199-12-31", errFull}, says{"days a 2000-01-01 2002-09-27", errFull}, says{"days a 2000-01-02 2002-09-28", errFull})
	for _, span := range []string{"2000-01-01 2002-09-26", "2197-04-06 2199-12-31"} {
		got := answersTo(t, []string{"put a||2000-01-01|1|daily 1||", "days a " + span})
		first, last, _ := strings.Cut(span, " ")
		if !strings.HasPrefix(got[1], first+" ") || !strings.HasSuffix(got[1], " "+last) || len(got[1]) != 1000*11-1 {
			t.Errorf("%s: %q", span, got[1])
		}
	}
}

// TestDaysOfLeaps: rules by months and years, and the days that are not there.
func TestDaysOfLeaps(t *testing.T) {
	run(t,
		says{"put m||2000-01-31|1|monthly 1||", "m"}, says{"days m 2000-01-01 2000-08-01", "2000-01-31 2000-03-31 2000-05-31 2000-07-31"},
		says{"put y||2000-02-29|1|yearly 1 count 3||", "y"}, says{"days y 2000-01-01 2199-12-31", "2000-02-29 2004-02-29 2008-02-29"},
		says{"put w||2000-01-03|1|weekly 2 mo,fr until 2000-01-31||", "w"}, says{"days w 2000-01-01 2000-12-31", "2000-01-03 2000-01-07 2000-01-17 2000-01-21 2000-01-31"})
}

func TestTexts(t *testing.T) {
	run(t,
		says{"texts", "0"}, says{once("a", "", "2000-01-05"), "a"}, says{"texts", "0"}, says{"commit x", "1"}, says{"texts", "2"}, says{"commit x", "2"}, says{"texts", "3"}, says{"commit " + strings.Repeat("x", 41), errText}, says{"texts", "3"},
		says{"drop a", "ok"}, says{"commit x", "4"}, says{"texts", "5"}, says{"sweep", "5"}, says{"texts", "5"}, says{"again", "ok"}, says{"texts", "5"}, says{"cut 0", "ok"}, says{"commit y", errOff}, says{"texts", "5"}, says{"again", "ok"}, says{"texts", "5"})
}

// TestPack: of each text its size, a colon, itself and a line end; and one more.
func TestPack(t *testing.T) {
	const calendar = "a||2000-01-05|1|once||\n" // of 23 bytes
	run(t,
		says{"pack", "0"}, says{"commit ", "1"}, // the texts are an empty one, and "commit 0\n0 "
		says{"pack", strconv.Itoa(len("0:\n") + 1 + len("11:commit 0\n0 \n") + 1)}, says{"pack", "20"},
		says{once("a", "", "2000-01-05"), "a"}, says{"pack", "20"}, says{"commit x", "3"}, says{"pack", strconv.Itoa(20 + len("23:"+calendar+"\n") + 1 + len("14:commit 2 1\n0 x\n") + 1)}, says{"pack", "67"},
		says{"commit " + strings.Repeat("x", 41), errText}, says{"pack", "67"}, says{"cut 3", "ok"}, says{"commit y", errOff}, says{"pack", "67"}, says{"again", "ok"}, says{"pack", "67"}, says{"sweep", "4"}, says{"pack", "67"})
}

// TestPackHasNoMore: what is told is the most that a pack of these texts has.
func TestPackHasNoMore(t *testing.T) {
	r, lines := repo.New(), []string(nil)
	for n := range 25 {
		lines = append(lines, once("e"+strconv.Itoa(n), strings.Repeat("x", n), "2000-01-05"), "commit "+strconv.Itoa(n), "pack")
		for _, line := range lines[3*n : 3*n+2] {
			if _, err := r.Do(line); err != nil {
				t.Fatal(err)
			}
		}
		got := answersTo(t, lines)[3*n+2]
		texts := r.Graph().Pool()
		if most, err := strconv.Atoi(got); err != nil || most != len(texts.Text())+texts.Len() || len(pack.Pack(texts)) > most {
			t.Errorf("%d: %s, %v", n, got, err)
		}
	}
}

func TestCut(t *testing.T) {
	run(t,
		says{"cut 10", "ok"}, says{"tick 3", "3"}, says{"head", "main"}, says{"tick 4", errOff}, says{"tick 4", errOff}, says{"cut 10", errOff}, says{"cut x", errText}, says{"cut 1234567890", errText}, says{"commit x", errOff}, says{"head", "main"},
		says{"on 2000-01-05", "nothing"}, says{"texts", "0"}, says{"pack", "0"}, says{"days a 2000-01-05 2000-01-06", errNone}, says{"drop a", errNone}, says{"tick x", errText}, says{"again", "ok"}, says{"tick 4", "7"})
	// Of two the last one counts, and `again` leaves none that waits.
	run(t, says{"cut 0", "ok"}, says{"cut 999999999", "ok"}, says{"tick 3", "3"}, says{"cut 0", "ok"}, says{"again", "ok"}, says{"tick 3", "6"}, says{"cut 19", "ok"}, says{"tick 1", "7"}, says{"tick 1", errOff}, says{"again", "ok"}, says{"tick 0", "7"})
	// Neither the player's own commands nor what changes nothing is on the tape.
	run(t,
		says{"commit x", "1"}, says{"cut 10", "ok"}, says{"texts", "2"}, says{"pack", "21"}, says{"days a 2000-01-05 2000-01-06", errNone}, says{"log", "1"}, says{"merge main", "nothing"}, says{"cut 10", "ok"}, says{"tick 3", "3"},
		says{"merge main", "nothing"}, says{"texts", "2"}, says{"tick 3", errOff})
}

// TestCutAtEachByte of a record: the line is done, or it is not; and so it is behind `again`.
func TestCutAtEachByte(t *testing.T) {
	const line = "commit some words"
	for n := range recordSize(line) + 1 {
		cut := "cut " + strconv.Itoa(n)
		start := []says{{once("a", "x", "2000-01-05"), "a"}, {"commit one", "1"}, {"tick 2", "2"}, {cut, "ok"}}
		if n < recordSize(line) {
			run(t, append(start, says{line, errOff}, says{"log", "1"}, says{"again", "ok"}, says{"log", "1"}, says{"on 2000-01-05", "a"}, says{"tick 0", "2"}, says{line, "2"})...)
			continue
		}
		run(t, append(start, says{line, "2"}, says{"tick 0", errOff}, says{"log", "2 1"}, says{"again", "ok"}, says{"log", "2 1"}, says{"tick 0", "2"})...)
	}
}

// TestAgain: all that was there is there again, what was not committed, too.
func TestAgain(t *testing.T) {
	run(t,
		says{"again", "ok"}, says{"head", "main"}, says{once("a", "x", "2000-01-05"), "a"}, says{"commit one", "1"}, says{"branch b", "ok"}, says{"tick 3", "3"}, says{"commit two", "2"}, says{"switch b", "ok"}, says{once("c", "", "2000-01-05"), "c"},
		says{"again", "ok"}, says{"again", "ok"}, says{"head", "b"}, says{"on 2000-01-05", "a c"}, says{"diff b", "c.all"}, says{"diff main", "c.all"}, says{"log", "1"}, says{"was main 2 2000-01-05", "a"}, says{"texts", "3"}, says{"tick 0", "3"}, says{"branch main", errExist},
		says{"commit three", "4"}, says{"again", "ok"}, says{"merge main", "5"}, says{"again", "ok"}, says{"log", "5 4 2 1"})
}

// TestOnlyRead: what is given is as it was, and what is behind its length is not said.
func TestOnlyRead(t *testing.T) {
	lines := []string{once("a", "x", "2000-01-05"), "commit x", "drop a", "never said"}
	said := slices.Clone(lines)
	first, second := answersTo(t, lines[:2]), answersTo(t, lines[:3])
	if !slices.Equal(first, []string{"a", "1"}) || !slices.Equal(second, []string{"a", "1", "ok"}) || !slices.Equal(lines, said) {
		t.Errorf("%q, %q, %q", first, second, lines)
	}
	// An answer is nobody else's.
	first[0], second[0] = "x", "y"
	if again := answersTo(t, lines); !slices.Equal(again, []string{"a", "1", "ok", errText}) || !slices.Equal(lines, said) {
		t.Errorf("%q, %q", again, lines)
	}
}

// TestLongLines: of however many bytes and blanks a line is, it is answered.
func TestLongLines(t *testing.T) {
	for _, much := range []string{strings.Repeat(" ", 1<<20), strings.Repeat("9", 1<<20), strings.Repeat("a ", 1<<19)} {
		run(t, says{much, errText}, says{"cut " + much, errText}, says{"again " + much, errText}, says{"pack" + much, errText}, says{"days " + much, errText}, says{"texts " + much, errText}, says{"put " + much, errText}, says{"tick 1", "1"})
	}
	long := strings.Repeat("9", 1<<20)
	run(t, says{"days " + long + " 2000-01-01 2000-01-02", errNone}, says{"days " + long + " 2000-01-01 " + long, errText}, says{"drop " + long, errNone})
}
