// Package dev is layer 1: a device of blocks, whose power may go: see shared/doc/01-dev.md.
package dev

import (
	"maps"
	"slices"
	"sync"

	"banyan/api"
)

// Dev has blocks. Several goroutines may use it at once.
//
// The bytes of a block are never written into once they stand in it: a copy of
// the device shares them, and whoever changes a block puts new bytes there.
type Dev struct {
	size   int
	blocks int

	mu     sync.Mutex // guards all that stands below
	lasts  map[int]kept
	waits  map[int][][]byte // only blocks of which a write waits
	off    bool
	armed  arming
	reads  uint64
	writes uint64
}

// kept is what lasts of a block; a block that was never kept is noughts.
type kept struct {
	bytes   []byte
	garbled bool // then there are no bytes
}

// arming says what the device is armed with; of 0 changes it is not armed.
type arming struct {
	changes int
	how     api.How
	done    bool
}

// New makes one of so many blocks of so many bytes, all noughts.
func New(size int, blocks int) (*Dev, api.Errno) {
	switch size {
	case 512, 1024, 2048, 4096:
	default:
		return nil, api.ErrArg
	}
	if blocks < api.MinBlocks || blocks > api.MaxBlocks {
		return nil, api.ErrArg
	}
	return &Dev{
		size:   size,
		blocks: blocks,
		lasts:  make(map[int]kept),
		waits:  make(map[int][][]byte),
	}, api.OK
}

// Size tells how many bytes a block has.
func (d *Dev) Size() int { return d.size }

// Blocks tells how many there are.
func (d *Dev) Blocks() int { return d.blocks }

// Read tells a block.
func (d *Dev) Read(n int) ([]byte, api.Errno) {
	d.mu.Lock()
	defer d.mu.Unlock()
	if d.off {
		return nil, api.ErrDevOff
	}
	if !d.has(n) {
		return nil, api.ErrDevRange
	}
	b, err := d.shown(n)
	if err != api.OK {
		return nil, err
	}
	d.reads++
	return b, api.OK
}

// Write writes a block.
func (d *Dev) Write(n int, b []byte) api.Errno {
	d.mu.Lock()
	defer d.mu.Unlock()
	if d.off {
		return api.ErrDevOff
	}
	if !d.has(n) || len(b) != d.size {
		return api.ErrDevRange
	}
	err := d.change(func() { d.waits[n] = append(d.waits[n], slices.Clone(b)) })
	if err == api.OK {
		d.writes++
	}
	return err
}

// Barrier makes all that was written last.
func (d *Dev) Barrier() api.Errno {
	d.mu.Lock()
	defer d.mu.Unlock()
	if d.off {
		return api.ErrDevOff
	}
	return d.change(d.settle)
}

// Arm says what becomes of the n-th change from now on.
func (d *Dev) Arm(n int, how api.How, done bool) api.Errno {
	d.mu.Lock()
	defer d.mu.Unlock()
	if d.off {
		return api.ErrDevOff
	}
	if n < 0 || how != api.Stop && how != api.Fail {
		return api.ErrArg
	}
	d.armed = arming{changes: n, how: how, done: done}
	return api.OK
}

// Off tells whether the power is.
func (d *Dev) Off() bool {
	d.mu.Lock()
	defer d.mu.Unlock()
	return d.off
}

// Pending tells the blocks whose writes do not last yet.
func (d *Dev) Pending() []api.Wait {
	d.mu.Lock()
	defer d.mu.Unlock()
	var list []api.Wait
	for _, n := range d.waiting() {
		list = append(list, api.Wait{Block: n, Writes: len(d.waits[n])})
	}
	return list
}

// Restart lets the power go, if it is on, and come back; the numbers say what becomes of the blocks that are pending.
func (d *Dev) Restart(fates []int) {
	d.mu.Lock()
	defer d.mu.Unlock()
	for k, n := range d.waiting() {
		if k < len(fates) {
			d.meet(n, fates[k])
		}
	}
	d.forget()
	d.off = false
	d.armed = arming{}
}

// Flip turns a byte of a block: what befalls it.
func (d *Dev) Flip(n int, at int, by byte) api.Errno {
	d.mu.Lock()
	defer d.mu.Unlock()
	if d.off {
		return api.ErrDevOff
	}
	if !d.has(n) || at < 0 || at >= d.size {
		return api.ErrDevRange
	}
	b, err := d.shown(n)
	if err != api.OK {
		return err
	}
	b[at] ^= by
	if w := d.waits[n]; len(w) > 0 {
		w[len(w)-1] = b
	} else {
		d.lasts[n] = kept{bytes: b}
	}
	return api.OK
}

// Count tells how many blocks were read and written.
func (d *Dev) Count() (uint64, uint64) {
	d.mu.Lock()
	defer d.mu.Unlock()
	return d.reads, d.writes
}

// Copy is another device, which is as this one is.
func (d *Dev) Copy() *Dev {
	d.mu.Lock()
	defer d.mu.Unlock()
	waits := make(map[int][][]byte, len(d.waits))
	for n, w := range d.waits {
		waits[n] = slices.Clone(w)
	}
	return &Dev{
		size:   d.size,
		blocks: d.blocks,
		lasts:  maps.Clone(d.lasts),
		waits:  waits,
		off:    d.off,
		armed:  d.armed,
		reads:  d.reads,
		writes: d.writes,
	}
}

// has tells whether there is a block of that number.
func (d *Dev) has(n int) bool { return n >= 0 && n < d.blocks }

// shown is what a block shows, in new memory.
func (d *Dev) shown(n int) ([]byte, api.Errno) {
	if w := d.waits[n]; len(w) > 0 {
		return slices.Clone(w[len(w)-1]), api.OK
	}
	k, ok := d.lasts[n]
	switch {
	case !ok:
		return make([]byte, d.size), api.OK
	case k.garbled:
		return nil, api.ErrDevBad
	}
	return slices.Clone(k.bytes), api.OK
}

// change does a change as the device is armed, and answers what that says.
func (d *Dev) change(do func()) api.Errno {
	a := d.armed
	if a.changes != 1 {
		do()
		d.armed.changes = max(a.changes-1, 0)
		return api.OK
	}
	if a.done {
		do()
	}
	d.armed = arming{}
	if a.how == api.Fail {
		return api.ErrDevFail
	}
	d.off = true
	return api.ErrDevOff
}

// settle makes the newest write of each block last.
func (d *Dev) settle() {
	for n, w := range d.waits {
		d.lasts[n] = kept{bytes: w[len(w)-1]}
	}
	d.forget()
}

// forget lets all go that waits.
func (d *Dev) forget() { d.waits = make(map[int][][]byte) }

// waiting tells the blocks of which writes wait, rising: fates go by this order.
func (d *Dev) waiting() []int { return slices.Sorted(maps.Keys(d.waits)) }

// meet does to a block what its fate says; what else waits of it is still there.
func (d *Dev) meet(n int, fate int) {
	w := d.waits[n]
	switch {
	case fate >= 1 && fate <= len(w):
		d.lasts[n] = kept{bytes: w[fate-1]}
	case fate == len(w)+1:
		d.lasts[n] = kept{garbled: true}
	}
}
