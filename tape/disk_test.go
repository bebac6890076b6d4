package tape_test

import (
	"math"
	"strings"
	"testing"

	"lammastide/api"
	"lammastide/tape"
)

// oddTexts: such as might be taken for something else.
var oddTexts = []string{"", "a", "ab", "a\n.b", "\n.", "\n", ".", ":", "0:\n.", "1:a\n.", "1:a\n.\n.", "x\n.1:y\n.", "é", "\xff\x00", "0123456789", strings.Repeat("\n.", 60), strings.Repeat("x", 999), strings.Repeat("y", 1000)}

// diskOf bytes.
func diskOf(t *testing.T, b string) *tape.Disk {
	t.Helper()
	d, err := tape.NewDisk(b)
	if d == nil || err != nil {
		t.Fatalf("%d bytes: %v", len(b), err)
	}
	return d
}

// appends: each is told with no error.
func appends(t *testing.T, d *tape.Disk, texts ...string) {
	t.Helper()
	for _, s := range texts {
		if err := tape.Append(d, s); err != nil {
			t.Fatalf("%.40q: %v", s, err)
		}
	}
}

// cuts: the Cut is told with no error.
func cuts(t *testing.T, d *tape.Disk, n int) {
	t.Helper()
	if err := d.Cut(n); err != nil {
		t.Fatalf("Cut(%d): %v", n, err)
	}
}

// holds just these bytes, with power or without.
func holds(t *testing.T, d *tape.Disk, b string, power bool) {
	t.Helper()
	if d.Bytes() != b || d.Power() != power {
		t.Fatalf("%d bytes, %.80q, power %v; want %d, %.80q, %v", len(d.Bytes()), d.Bytes(), d.Power(), len(b), b, power)
	}
}

// refused: Append tells just this error, and the disk stays as it was.
func refused(t *testing.T, d *tape.Disk, s string, want error) {
	t.Helper()
	b, power := d.Bytes(), d.Power()
	if err := tape.Append(d, s); err != want {
		t.Fatalf("%d bytes behind %d: %v; want %v", len(s), len(b), err, want)
	}
	holds(t, d, b, power)
}

func TestNewDisk(t *testing.T) {
	for _, b := range []string{"", "abc", "1:a\n.", "1:a", "\x00\xff", strings.Repeat("x", api.MaxBytes-1), strings.Repeat("x", api.MaxBytes)} {
		holds(t, diskOf(t, b), b, true)
	}
	for _, size := range []int{api.MaxBytes + 1, api.MaxBytes + 2, 2 * api.MaxBytes} {
		if d, err := tape.NewDisk(strings.Repeat("x", size)); d != nil || err != api.ErrBound {
			t.Errorf("%d bytes: %v", size, err)
		}
	}
	// Each is another one.
	d, e := diskOf(t, "0:\n."), diskOf(t, "0:\n.")
	appends(t, d, "a")
	cuts(t, d, 0)
	holds(t, d, "0:\n.1:a\n.", true)
	appends(t, e, "b")
	holds(t, e, "0:\n.1:b\n.", true)
}

func TestAppend(t *testing.T) {
	d, all := diskOf(t, ""), ""
	for _, s := range oddTexts {
		appends(t, d, s)
		all += record(s)
		holds(t, d, all, true)
	}
	d = diskOf(t, "")
	appends(t, d, "", "a\n.b", "0123456789", "é")
	holds(t, d, "0:\n.4:a\n.b\n.10:0123456789\n.2:é\n.", true)
	// At the end of whatever is there.
	d = diskOf(t, "abc")
	appends(t, d, "x", "")
	holds(t, d, "abc1:x\n.0:\n.", true)
}

func TestAppendRefusesLongTexts(t *testing.T) {
	for _, size := range []int{api.MaxText + 1, api.MaxText + 2, api.MaxBytes, 2 * api.MaxBytes} {
		refused(t, diskOf(t, "0:\n."), strings.Repeat("x", size), api.ErrBound)
	}
	// Bytes count, not letters.
	refused(t, diskOf(t, ""), strings.Repeat("é", api.MaxText/2)+"x", api.ErrBound)
	longest := strings.Repeat("é", api.MaxText/2)
	d := diskOf(t, "")
	appends(t, d, longest)
	holds(t, d, "10000:"+longest+"\n.", true)
}

func TestAppendRefusesWithoutRoom(t *testing.T) {
	for _, s := range []string{"", "a", "123456789", "0123456789", strings.Repeat("x", api.MaxText)} {
		size := len(record(s))
		d := diskOf(t, strings.Repeat("x", api.MaxBytes-size))
		appends(t, d, s)
		holds(t, d, strings.Repeat("x", api.MaxBytes-size)+record(s), true)
		refused(t, d, "", api.ErrFull)
		for _, left := range []int{0, 1, size - 2, size - 1} {
			refused(t, diskOf(t, strings.Repeat("x", api.MaxBytes-left)), s, api.ErrFull)
		}
	}
	// A shorter one has room.
	d := diskOf(t, strings.Repeat("x", api.MaxBytes-9))
	refused(t, d, "12345678", api.ErrFull)
	appends(t, d, "a")
	refused(t, d, "a", api.ErrFull)
	appends(t, d, "")
	refused(t, d, "", api.ErrFull)
}

// TestAppendManyTimes: until it is full, and all comes again.
func TestAppendManyTimes(t *testing.T) {
	d, many := diskOf(t, ""), api.MaxBytes/len(record(""))
	for range many {
		appends(t, d, "")
	}
	refused(t, d, "", api.ErrFull)
	holds(t, d, strings.Repeat("0:\n.", many), true)
	recovers(t, d, make([]string, many))
}

func TestAppendTellsTheFirstError(t *testing.T) {
	long := strings.Repeat("x", api.MaxText+1)
	for _, s := range []string{"", "a", long, strings.Repeat("x", 2*api.MaxBytes)} {
		if err := tape.Append(nil, s); err != api.ErrShape {
			t.Errorf("%d bytes: %v", len(s), err)
		}
	}
	// Full, and power is off: it failed ahead of the first byte.
	d := diskOf(t, strings.Repeat("x", api.MaxBytes-4))
	cuts(t, d, 0)
	refused(t, d, long, api.ErrBound)
	refused(t, d, "a", api.ErrFull)
	if err := tape.Append(d, ""); err != api.ErrOff || d.Power() {
		t.Fatal(err)
	}
	refused(t, d, long, api.ErrBound)
	refused(t, d, "a", api.ErrFull)
	refused(t, d, "", api.ErrOff)
}

// TestErrorsLeaveTheCut: what is not written does not count.
func TestErrorsLeaveTheCut(t *testing.T) {
	d := diskOf(t, strings.Repeat("x", api.MaxBytes-9))
	cuts(t, d, 5)
	for range 9 {
		refused(t, d, strings.Repeat("x", api.MaxText+1), api.ErrBound)
		refused(t, d, "123456", api.ErrFull)
		if err := d.Cut(-1); err != api.ErrBound {
			t.Fatal(err)
		}
	}
	appends(t, d, "a")
	if err := tape.Append(d, ""); err != api.ErrOff || d.Power() {
		t.Error(err, d.Power())
	}
}

// TestCut at each byte of several records.
func TestCut(t *testing.T) {
	texts := []string{"ab", "", "0123456789", "\n.", "x"}
	all := ""
	for _, s := range texts {
		all += record(s)
	}
	for n := range len(all) + 3 {
		d := diskOf(t, "")
		cuts(t, d, n)
		end := 0
		for _, s := range texts {
			end += len(record(s))
			err := tape.Append(d, s)
			if want := n < end; (err == api.ErrOff) != want || (err == nil) == want {
				t.Fatalf("cut at %d, record up to %d: %v", n, end, err)
			}
			holds(t, d, all[:min(n, end)], n >= end)
		}
	}
}

// TestCutOfManyBytes is like none.
func TestCutOfManyBytes(t *testing.T) {
	for _, n := range []int{api.MaxBytes, math.MaxInt - 1, math.MaxInt} {
		d := diskOf(t, "")
		cuts(t, d, n)
		appends(t, d, oddTexts...)
		recovers(t, d, oddTexts)
	}
}

func TestCutRefuses(t *testing.T) {
	d := diskOf(t, "")
	for _, n := range []int{-1, -2, math.MinInt} {
		if err := d.Cut(n); err != api.ErrBound {
			t.Errorf("%d: %v", n, err)
		}
	}
	appends(t, d, "a") // no Cut waits
	cuts(t, d, 3)
	if err := tape.Append(d, "a"); err != api.ErrOff {
		t.Fatal(err)
	}
	for _, n := range []int{0, 1, 100, math.MaxInt} {
		if err := d.Cut(n); err != api.ErrOff {
			t.Errorf("%d: %v", n, err)
		}
	}
	for _, n := range []int{-1, math.MinInt} {
		if err := d.Cut(n); err != api.ErrBound {
			t.Errorf("%d: %v", n, err)
		}
	}
	holds(t, d, "1:a\n.1:a", false)
	refused(t, d, "", api.ErrOff)
}

// TestCutAgain: from now on, whatever a Cut ahead of it said.
func TestCutAgain(t *testing.T) {
	for _, first := range []int{0, 2, 5, 100} {
		d := diskOf(t, "")
		cuts(t, d, first)
		cuts(t, d, 10)
		appends(t, d, "a")
		cuts(t, d, 7)
		appends(t, d, "b")
		if err := tape.Append(d, "c"); err != api.ErrOff {
			t.Fatal(err)
		}
		holds(t, d, "1:a\n.1:b\n.1:", false)
	}
	// Also where no byte is left: power is there as long as nothing is written.
	d := diskOf(t, "")
	cuts(t, d, 5)
	appends(t, d, "a")
	holds(t, d, "1:a\n.", true)
	cuts(t, d, 5)
	appends(t, d, "b")
	holds(t, d, "1:a\n.1:b\n.", true)
	if err := tape.Append(d, ""); err != api.ErrOff {
		t.Fatal(err)
	}
	holds(t, d, "1:a\n.1:b\n.", false)
}

func TestOn(t *testing.T) {
	d := diskOf(t, "")
	d.On()
	holds(t, d, "", true)
	for range 3 {
		cuts(t, d, 3)
		d.On()
		appends(t, d, "abcdef")
	}
	all := strings.Repeat("6:abcdef\n.", 3)
	holds(t, d, all, true)
	cuts(t, d, 3)
	if err := tape.Append(d, "abcdef"); err != api.ErrOff {
		t.Fatal(err)
	}
	holds(t, d, all+"6:a", false)
	d.On()
	holds(t, d, all+"6:a", true)
	cuts(t, d, 9) // power is there again, so it may be cut
	d.On()
	appends(t, d, strings.Repeat("x", 100))
}

// TestTornRecord: the next one is written over what power left of it; it counts as there until then.
func TestTornRecord(t *testing.T) {
	for n := range len(record("abc")) {
		d := diskOf(t, "1:x\n.")
		cuts(t, d, n)
		if err := tape.Append(d, "abc"); err != api.ErrOff {
			t.Fatal(n, err)
		}
		d.On()
		holds(t, d, "1:x\n."+record("abc")[:n], true)
		cuts(t, d, len(record("yz")))
		appends(t, d, "yz")
		holds(t, d, "1:x\n.2:yz\n.", true)
		recovers(t, d, []string{"x", "yz"})
	}
	full := strings.Repeat("x", api.MaxBytes-7)
	d := diskOf(t, full)
	cuts(t, d, 3)
	if err := tape.Append(d, "abc"); err != api.ErrOff {
		t.Fatal(err)
	}
	refused(t, d, "a", api.ErrFull)
	d.On()
	refused(t, d, "a", api.ErrFull)
	appends(t, d, "")
	holds(t, d, full+"0:\n.", true)
}

func TestNilDisk(t *testing.T) {
	d, err := tape.NewDisk(strings.Repeat("x", api.MaxBytes+1))
	if d != nil || err != api.ErrBound {
		t.Fatal(err)
	}
	d.On()
	holds(t, d, "", false)
	if err := d.Cut(-1); err != api.ErrBound {
		t.Error(err)
	}
	if err := d.Cut(0); err != api.ErrOff {
		t.Error(err)
	}
	if err := tape.Append(d, ""); err != api.ErrShape {
		t.Error(err)
	}
	if l, err := tape.Recover(d); len(l) > 0 || err != api.ErrShape {
		t.Error(l, err)
	}
}
