package tape

import "lammastide/api"

// Disk at whose end is written. What power cut short stays there until the next record is written over it, or the tape is recovered.
type Disk struct {
	bytes []byte
	torn  int // how many at the end are of a record that power failed in
	off   bool
	waits bool // a Cut
	left  int  // bytes until it
}

// NewDisk of bytes.
func NewDisk(b string) (*Disk, error) {
	if len(b) > api.MaxBytes {
		return nil, api.ErrBound
	}
	return &Disk{bytes: []byte(b)}, nil
}

// Cut power later.
func (d *Disk) Cut(n int) error {
	if n < 0 {
		return api.ErrBound
	}
	if !d.Power() {
		return api.ErrOff
	}
	d.waits, d.left = true, n
	return nil
}

// On again.
func (d *Disk) On() {
	if d == nil {
		return
	}
	d.off, d.waits = false, false
}

// Power: is it there? (Not of a nil disk, as NewDisk answers it beside an error.)
func (d *Disk) Power() bool { return d != nil && !d.off }

// Bytes of a disk.
func (d *Disk) Bytes() string {
	if d == nil {
		return ""
	}
	return string(d.bytes)
}

// hasRoom for so many bytes, behind all that is there.
func (d *Disk) hasRoom(many int) bool { return many <= api.MaxBytes-len(d.bytes) }

// write a record, whole or as far as power reaches.
func (d *Disk) write(record string) error {
	if d.off {
		return api.ErrOff
	}
	// No record could be read behind a torn one, and this one is to be told as written.
	d.keep(len(d.bytes) - d.torn)
	if d.waits && d.left < len(record) {
		d.bytes = append(d.bytes, record[:d.left]...)
		d.torn, d.off = d.left, true
		return api.ErrOff
	}
	d.bytes = append(d.bytes, record...)
	if d.waits {
		d.left -= len(record)
	}
	return nil
}

// keep so many bytes, up to the end of a record.
func (d *Disk) keep(many int) { d.bytes, d.torn = d.bytes[:many], 0 }
