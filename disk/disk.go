// Package disk is layer 1: see shared/doc/01-disk.md.
package disk

import (
	"bytes"
	"slices"

	"cardcase/api"
)

const (
	maxSize = 1 << 18
	unarmed = -1
)

// row is bytes one behind the other: what stands on a disk is one, what lasts another.
type row struct{ cells []byte }

// write is one that waits; its bytes are never changed, so disks may share them.
type write struct {
	at    int
	bytes []byte
}

// Disk is a row of bytes.
type Disk struct {
	row           // what stands
	lasts     row // what stood at the last sync
	waits     []write
	writable  int // how many bytes, from 0 on, may be written
	stepsLeft int // unarmed, or how many steps it still does
	stepsDone int
}

// New makes a disk.
func New(size int) (*Disk, api.Errno) {
	if size < 1 || size > maxSize {
		goto refused
	}
	return fresh(row{make([]byte, size)}, size), api.OK
refused:
	return nil, api.ErrArg
}

// Write writes bytes.
func (d *Disk) Write(at int, b []byte) api.Errno {
	no := api.ErrNil
	if d.missing() {
		goto refused
	}
	no = api.ErrRange
	if !within(at, len(b), d.Size()) {
		goto refused
	}
	no = api.ErrFull
	// No bytes are none of those that may not be written, wherever on the disk their place is.
	if len(b) > 0 && !within(at, len(b), d.writable) {
		goto refused
	}
	no = api.ErrStop
	if d.stepsLeft == 0 {
		goto refused
	}
	d.stand(write{at, bytes.Clone(b)})
	d.countStep()
	return api.OK
refused:
	return no
}

// Sync makes all last.
func (d *Disk) Sync() api.Errno {
	no := api.ErrNil
	if d.missing() {
		goto refused
	}
	no = api.ErrStop
	if d.stepsLeft == 0 {
		goto refused
	}
	doAgain(d.waits, func(w write) { d.lasts.put(w) })
	d.waits = nil
	d.countStep()
	return api.OK
refused:
	return no
}

// Read tells bytes.
func (d *Disk) Read(at, n int) ([]byte, api.Errno) {
	no := api.ErrNil
	if d.missing() {
		goto refused
	}
	no = api.ErrArg
	if n < 0 {
		goto refused
	}
	no = api.ErrRange
	if !within(at, n, d.Size()) {
		goto refused
	}
	return bytes.Clone(d.cells[at : at+n]), api.OK
refused:
	return nil, no
}

// Arm arms it.
func (d *Disk) Arm(n int) api.Errno {
	if d.missing() {
		goto refused
	}
	// Below 0 all numbers mean the same, and must be the same to Same.
	d.stepsLeft = max(n, unarmed)
	return api.OK
refused:
	return api.ErrNil
}

// Limit says how many bytes may be written.
func (d *Disk) Limit(n int) api.Errno {
	no := api.ErrNil
	if d.missing() {
		goto refused
	}
	no = api.ErrRange
	if n < 0 || n > d.Size() {
		goto refused
	}
	d.writable = n
	return api.OK
refused:
	return no
}

// Crash tells what a crash leaves.
func (d *Disk) Crash(c api.Crash) (*Disk, api.Errno) {
	if d.missing() {
		goto refused
	}
	return fresh(d.torn(c, pickAmong), d.writable), api.OK
refused:
	return nil, api.ErrNil
}

// Size tells how many bytes it has.
func (d *Disk) Size() int {
	if d.missing() {
		return 0
	}
	return len(d.cells)
}

// Waits tells how many writes wait.
func (d *Disk) Waits() int {
	if d.missing() {
		return 0
	}
	return len(d.waits)
}

// Steps tells how many steps were done.
func (d *Disk) Steps() int {
	if d.missing() {
		return 0
	}
	return d.stepsDone
}

// Copy tells another one with the same.
func (d *Disk) Copy() *Disk {
	if d.missing() {
		return nil
	}
	other := *d
	other.row = d.row.another()
	other.lasts = d.lasts.another()
	// A list of its own, lest both append into the same spare room.
	other.waits = slices.Clone(d.waits)
	return &other
}

// Same tells whether two are the same.
func Same(a, b *Disk) bool {
	if a.missing() || b.missing() {
		return a.missing() && b.missing()
	}
	return allTrue(
		bytes.Equal(a.cells, b.cells),
		bytes.Equal(a.lasts.cells, b.lasts.cells),
		slices.EqualFunc(a.waits, b.waits, sameWrite),
		a.writable == b.writable,
		a.stepsLeft == b.stepsLeft,
	)
}

// missing holds of a nil disk, and of one that New did not make: New makes none without bytes.
func (d *Disk) missing() bool { return d == nil || len(d.cells) == 0 }

// stand makes a write stand, and wait.
func (d *Disk) stand(w write) {
	d.put(w)
	d.waits = append(d.waits, w)
}

// countStep counts a step that was done, also against those that it is armed with.
func (d *Disk) countStep() {
	d.stepsDone++
	if d.stepsLeft > 0 {
		d.stepsLeft--
	}
}

// torn tells the bytes that a crash leaves, where pick says how much of what waits is kept.
func (d *Disk) torn(c api.Crash, pick func(number, among int) int) row {
	left := d.lasts.another()
	keep := pick(c.Keep, len(d.waits)+1)
	doAgain(d.waits[:keep], func(w write) { left.put(w) })
	if keep < len(d.waits) {
		next := d.waits[keep]
		left.put(write{next.at, next.bytes[:pick(c.Torn, len(next.bytes)+1)]})
	}
	return left
}

// put lays a write's bytes where they belong.
func (r row) put(w write) { copy(r.cells[w.at:], w.bytes) }

// another tells the same bytes in memory of their own.
func (r row) another() row { return row{bytes.Clone(r.cells)} }

// fresh makes a disk on which these bytes, which it keeps, stand and last.
func fresh(stands row, writable int) *Disk {
	return &Disk{row: stands, lasts: stands.another(), writable: writable, stepsLeft: unarmed}
}

// within tells whether n bytes from a place on end at most at end. It subtracts, since a sum of huge numbers would wrap round.
func within(at, n, end int) bool { return at >= 0 && at <= end-n }

// pickAmong takes a pick modulo n, which is above 0; Go's own remainder is below 0 where the pick is.
func pickAmong(number, n int) int { return (number%n + n) % n }

// doAgain does something to each of a list, in its order.
func doAgain[T any](list []T, do func(T)) {
	for _, one := range list {
		do(one)
	}
}

// sameWrite tells whether two writes lay the same at the same place.
func sameWrite(a, b write) bool { return a.at == b.at && bytes.Equal(a.bytes, b.bytes) }

// allTrue tells whether each of some truths holds.
func allTrue(truths ...bool) bool {
	for _, truth := range truths {
		if !truth {
			return false
		}
	}
	return true
}
