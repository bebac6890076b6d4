package tape_test

import (
	"fmt"
	"math/rand"
	"regexp"
	"slices"
	"strconv"
	"strings"
	"testing"

	"lammastide/api"
	"lammastide/tape"
)

var headForm = regexp.MustCompile(`^(0|[1-9][0-9]{0,4}):`)

// record by the words of P130.
func record(s string) string { return fmt.Sprintf("%d:%s\n.", len(s), s) }

// plainRead by the words of P131.
func plainRead(b string) ([]string, int) {
	var list []string
	size := 0
	for {
		head := headForm.FindStringSubmatch(b[size:])
		if head == nil {
			return list, size
		}
		many, _ := strconv.Atoi(head[1])
		from := size + len(head[0])
		if many > 10000 || from+many > len(b) || !strings.HasPrefix(b[from+many:], "\n.") {
			return list, size
		}
		list = append(list, b[from:from+many])
		size = from + many + 2
	}
}

// reads just these records, of so many bytes.
func reads(t *testing.T, b string, list []string, size int) {
	t.Helper()
	if l, n := tape.Read(b); !slices.Equal(l, list) || n != size {
		t.Fatalf("%.80q: %d records, %d bytes, %.80q; want %d, %d", b, len(l), n, l, len(list), size)
	}
}

// readsPlainly: as its words say.
func readsPlainly(t *testing.T, b string) {
	t.Helper()
	list, size := plainRead(b)
	reads(t, b, list, size)
	// What was read is what was written.
	all := ""
	for _, s := range list {
		all += record(s)
	}
	if all != b[:size] {
		t.Fatalf("%.80q: %.80q was read", b, all)
	}
}

// recovers just these; nothing but them is there then, and a second time changes nothing.
func recovers(t *testing.T, d *tape.Disk, list []string) {
	t.Helper()
	var all strings.Builder
	for _, s := range list {
		all.WriteString(record(s))
	}
	for range 2 {
		if l, err := tape.Recover(d); !slices.Equal(l, list) || err != nil {
			t.Fatalf("%d records, %.80q, %v; want %d, %.80q", len(l), l, err, len(list), list)
		}
		holds(t, d, all.String(), true)
	}
}

func TestRead(t *testing.T) {
	reads(t, "", nil, 0)
	reads(t, "0:\n.", []string{""}, 4)
	reads(t, "4:a\n.b\n.0:\n.", []string{"a\n.b", ""}, 12)
	reads(t, "5:1:a\n.\n.", []string{"1:a\n."}, 9)
	all := ""
	for i, s := range oddTexts {
		all += record(s)
		reads(t, all, oddTexts[:i+1], len(all))
	}
	longest := strings.Repeat("x", api.MaxText)
	reads(t, record(longest)+record(longest), []string{longest, longest}, 2*len(record(longest)))
	// No bound is set on all of them.
	many := api.MaxBytes
	reads(t, strings.Repeat("0:\n.", many), make([]string, many), 4*many)
}

func TestReadEndsAtTheFirstThatIsNone(t *testing.T) {
	long := strings.Repeat("x", api.MaxText+1)
	for _, s := range []string{
		"x", "\n", ".", "\n.", ":", ":\n.", "1", "1:", "1:y", "1:y\n", "1:y.", "1:y\n\n.", "1:y\r\n.", "1:y\x00\n.", "1:yy\n.", "1:\n.", "2:y\n.", "3:y\n.", "0:y\n.", "0:\n", "0:", "0\n.", "0;\n.",
		"01:y\n.", "00:\n.", "-1:\n.", "-1:y\n.", "-0:\n.", "+1:y\n.", " 1:y\n.", "1 :y\n.", "0x1:y\n.", "1_0:0123456789\n.", "１:y\n.", "1:é\n.",
		record(long), "10001:", record(long + long), "99999:y\n.", "1000000000:y\n.", "9223372036854775807:\n.", "9223372036854775808:\n.", "18446744073709551616:\n.", "18446744073709551617:y\n.", strings.Repeat("9", 1000) + ":y\n.", strings.Repeat("0", 1000) + ":\n.",
		strings.Repeat("x", api.MaxBytes), strings.Repeat("9", api.MaxBytes), strings.Repeat(":", api.MaxBytes),
	} {
		for _, behind := range []string{"", "1:z\n.", "\n.0:\n."} {
			b := s + behind
			if list, _ := plainRead(b); len(list) > 0 {
				continue // what stands behind makes it a record
			}
			reads(t, b, nil, 0)
			reads(t, "1:a\n.0:\n."+b, []string{"a", ""}, 9)
		}
		if list, _ := plainRead(s); len(list) > 0 {
			t.Errorf("%.40q is a record", s)
		}
	}
}

// TestReadOfPieces, and of what is changed in one place.
func TestReadOfPieces(t *testing.T) {
	var all strings.Builder
	for _, s := range oddTexts[:16] {
		all.WriteString(record(s))
	}
	b := all.String()
	for i := range len(b) {
		readsPlainly(t, b[:i])
		readsPlainly(t, b[i:])
		for _, put := range []string{"", "0", "1", "9", ":", "\n", ".", "\n.", "x", "-", "\x00", "0:\n."} {
			readsPlainly(t, b[:i]+put+b[i:])
			readsPlainly(t, b[:i]+put+b[i+1:])
		}
	}
}

func FuzzRead(f *testing.F) {
	f.Add("")
	f.Add("0:\n.4:a\n.b\n.1:y\n")
	f.Add("10:0123456789\n.01:y\n.")
	f.Fuzz(readsPlainly)
}

func TestRecover(t *testing.T) {
	for b, list := range map[string][]string{
		"": nil, "abc": nil, "1:y": nil, "\n.": nil, "01:y\n.": nil,
		"0:\n.":                     {""},
		"1:a\n.1:b\n":               {"a"},
		"1:a\n.x1:b\n.":             {"a"},
		"1:a\n.4:b\n.c\n.1:d\n.1:e": {"a", "b\n.c", "d"},
		record(strings.Repeat("x", api.MaxText)) + record(strings.Repeat("y", api.MaxText+1)) + record("z"): {strings.Repeat("x", api.MaxText)},
	} {
		d := diskOf(t, b)
		recovers(t, d, list)
		appends(t, d, "one more")
		recovers(t, d, append(slices.Clone(list), "one more"))
	}
	if l, err := tape.Recover(nil); len(l) > 0 || err != api.ErrShape {
		t.Error(l, err)
	}
}

// TestRecoverMakesRoom: bytes that are no records take none any more.
func TestRecoverMakesRoom(t *testing.T) {
	d := diskOf(t, "1:a\n."+strings.Repeat("x", api.MaxBytes-5))
	refused(t, d, "", api.ErrFull)
	recovers(t, d, []string{"a"})
	appends(t, d, strings.Repeat("y", api.MaxText))
}

// TestRecoverTurnsPowerOn, be it off or about to fail.
func TestRecoverTurnsPowerOn(t *testing.T) {
	d := diskOf(t, "")
	cuts(t, d, 3)
	recovers(t, d, nil)
	appends(t, d, "abcdef")
	cuts(t, d, 3)
	if err := tape.Append(d, "x"); err != api.ErrOff {
		t.Fatal(err)
	}
	holds(t, d, "6:abcdef\n.1:x", false)
	recovers(t, d, []string{"abcdef"})
	appends(t, d, "y")
	cuts(t, d, 5)
	appends(t, d, "z")
	recovers(t, d, []string{"abcdef", "y", "z"})
	appends(t, d, "")
}

// TestAnswersAreNew: what is written into an answer shows nowhere.
func TestAnswersAreNew(t *testing.T) {
	d := diskOf(t, "")
	appends(t, d, "a", "b")
	l, err := tape.Recover(d)
	if err != nil {
		t.Fatal(err)
	}
	l[0] = "x"
	_ = append(l[:1], "y", "z")
	before := d.Bytes()
	recovers(t, d, []string{"a", "b"})
	cuts(t, d, 4)
	if err := tape.Append(d, "c"); err != api.ErrOff {
		t.Fatal(err)
	}
	torn := d.Bytes()
	d.On()
	appends(t, d, "dddd")
	if before != "1:a\n.1:b\n." || torn != "1:a\n.1:b\n.1:c\n" {
		t.Errorf("%q, %q", before, torn)
	}
	b := d.Bytes()
	first, _ := tape.Read(b)
	first[0] = "x"
	reads(t, b, []string{"a", "b", "dddd"}, len(b))
}

// TestCutAnywhere: P132, at each byte of a tape, from a disk with records on it and from an empty one.
func TestCutAnywhere(t *testing.T) {
	texts := oddTexts[:15]
	for _, there := range [][]string{nil, {"there", "", "1:a\n."}} {
		start := ""
		for _, s := range there {
			start += record(s)
		}
		for n := range 200 {
			d, done := diskOf(t, start), slices.Clone(there)
			cuts(t, d, n)
			for _, s := range texts {
				if tape.Append(d, s) == nil {
					done = append(done, s)
				}
			}
			// The bytes alone are enough to go on from.
			recovers(t, diskOf(t, d.Bytes()), done)
			recovers(t, d, done)
		}
	}
}

// step of any kind; what was appended with no error is told in done.
func step(t *testing.T, d *tape.Disk, random *rand.Rand, done []string) []string {
	t.Helper()
	switch random.Intn(9) {
	case 0:
		d.On()
	case 1:
		recovers(t, d, done)
	case 2, 3:
		power := d.Power()
		if err := d.Cut(random.Intn(40)); (err == nil) != power {
			t.Fatal(err, power)
		}
	default:
		s := oddTexts[random.Intn(15)]
		err := tape.Append(d, s)
		if err == nil {
			done = append(done, s)
		} else if err != api.ErrOff || d.Power() {
			t.Fatal(err, d.Power())
		}
	}
	return done
}

// TestWhateverIsDone: P132, over steps of any kind, with power that is turned on without a Recover among them.
func TestWhateverIsDone(t *testing.T) {
	random := rand.New(rand.NewSource(13))
	for range 500 {
		d, done := diskOf(t, ""), []string(nil)
		for range 60 {
			done = step(t, d, random, done)
			if l, _ := tape.Read(d.Bytes()); !slices.Equal(l, done) {
				t.Fatalf("%q holds %q; want %q", d.Bytes(), l, done)
			}
		}
		recovers(t, d, done)
	}
}
