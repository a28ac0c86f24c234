package dev_test

import (
	"bytes"
	"slices"
	"sync"
	"testing"

	"banyan/api"
	"banyan/dev"
)

// model is a device as the chapter's words tell it, with nothing shared and nothing saved.
type model struct {
	lasts   [16][]byte // nil: garbled
	waits   [16][][]byte
	off     bool
	changes int
	how     api.How
	done    bool
	reads   uint64
	writes  uint64
}

func newModel() *model {
	m := &model{}
	for n := range m.lasts {
		m.lasts[n] = make([]byte, 512)
	}
	return m
}

// shown is the very memory of what a block shows; nil: it cannot be read.
func (m *model) shown(n int) []byte {
	if w := m.waits[n]; len(w) > 0 {
		return w[len(w)-1]
	}
	return m.lasts[n]
}

func (m *model) read(n int) ([]byte, api.Errno) {
	switch {
	case m.off:
		return nil, api.ErrDevOff
	case n < 0 || n > 15:
		return nil, api.ErrDevRange
	case m.shown(n) == nil:
		return nil, api.ErrDevBad
	}
	m.reads++
	return m.shown(n), api.OK
}

// count tells whether the next change is done, and what it answers.
func (m *model) count() (bool, api.Errno) {
	switch m.changes {
	case 0:
		return true, api.OK
	case 1:
		m.changes = 0
		if m.how == api.Fail {
			return m.done, api.ErrDevFail
		}
		m.off = true
		return m.done, api.ErrDevOff
	}
	m.changes--
	return true, api.OK
}

func (m *model) write(n int, b []byte) api.Errno {
	if m.off {
		return api.ErrDevOff
	}
	if n < 0 || n > 15 || len(b) != 512 {
		return api.ErrDevRange
	}
	do, err := m.count()
	if do {
		m.waits[n] = append(m.waits[n], bytes.Clone(b))
	}
	if err == api.OK {
		m.writes++
	}
	return err
}

func (m *model) barrier() api.Errno {
	if m.off {
		return api.ErrDevOff
	}
	do, err := m.count()
	for n, w := range m.waits {
		if do && len(w) > 0 {
			m.lasts[n] = w[len(w)-1]
			m.waits[n] = nil
		}
	}
	return err
}

func (m *model) arm(n int, how api.How, done bool) api.Errno {
	switch {
	case m.off:
		return api.ErrDevOff
	case n < 0 || how < 0 || how > 1:
		return api.ErrArg
	}
	m.changes, m.how, m.done = n, how, done
	return api.OK
}

func (m *model) pending() []api.Wait {
	var list []api.Wait
	for n, w := range m.waits {
		if len(w) > 0 {
			list = append(list, api.Wait{Block: n, Writes: len(w)})
		}
	}
	return list
}

func (m *model) restart(fates []int) {
	for k, p := range m.pending() {
		fate := 0
		if k < len(fates) {
			fate = fates[k]
		}
		if fate == p.Writes+1 {
			m.lasts[p.Block] = nil
		} else if fate > 0 && fate <= p.Writes {
			m.lasts[p.Block] = m.waits[p.Block][fate-1]
		}
		m.waits[p.Block] = nil
	}
	m.off, m.changes = false, 0
}

func (m *model) flip(n int, at int, by byte) api.Errno {
	switch {
	case m.off:
		return api.ErrDevOff
	case n < 0 || n > 15 || at < 0 || at > 511:
		return api.ErrDevRange
	case m.shown(n) == nil:
		return api.ErrDevBad
	}
	m.shown(n)[at] ^= by
	return api.OK
}

func (m *model) copy() *model {
	c := *m
	for n := range m.lasts {
		c.lasts[n] = bytes.Clone(m.lasts[n])
		c.waits[n] = nil
		for _, w := range m.waits[n] {
			c.waits[n] = append(c.waits[n], bytes.Clone(w))
		}
	}
	return &c
}

// dice is a row of numbers that is the same in every run.
type dice uint64

// roll is a number from lo to hi.
func (d *dice) roll(lo int, hi int) int {
	*d = *d*6364136223846793005 + 1442695040888963407
	return lo + int(uint64(*d)>>33)%(hi-lo+1)
}

// twin is a device, and the model of it.
type twin struct {
	d *dev.Dev
	m *model
}

// step does one call to both; false: they answered otherwise.
func (x *twin) step(r *dice) bool {
	n, at, by := r.roll(-1, 16), r.roll(-1, 512), byte(r.roll(0, 255))
	switch r.roll(0, 20) {
	case 0, 1, 2, 3:
		got, err := x.d.Read(n)
		asked, want := x.m.read(n)
		return err == want && bytes.Equal(got, asked)
	case 4, 5, 6, 7, 8, 9, 10, 11:
		b := fill(by)
		if r.roll(0, 30) == 0 {
			b = b[:r.roll(0, 511)]
		}
		return x.d.Write(n, b) == x.m.write(n, b)
	case 12, 13:
		return x.d.Barrier() == x.m.barrier()
	case 14:
		left, how, done := r.roll(-1, 20), api.How(r.roll(-1, 2)), r.roll(0, 1) == 1
		return x.d.Arm(left, how, done) == x.m.arm(left, how, done)
	case 15, 16:
		fates := make([]int, r.roll(0, 16))
		for k := range fates {
			fates[k] = r.roll(-1, 6)
		}
		x.d.Restart(fates)
		x.m.restart(fates)
	case 17, 18, 19:
		return x.d.Flip(n, at, by) == x.m.flip(n, at, by)
	case 20:
		x.d, x.m = x.d.Copy(), x.m.copy()
	}
	return true
}

// alike tells whether the device is as the model says, in all that can be asked.
func (x *twin) alike() bool {
	r, w := x.d.Count()
	if x.d.Off() != x.m.off || r != x.m.reads || w != x.m.writes || !slices.Equal(x.d.Pending(), x.m.pending()) {
		return false
	}
	m := x.m.copy()
	for n, f := range faceOf(x.d) {
		b, err := m.read(n)
		if f.err != err || !bytes.Equal(f.bytes, b) {
			return false
		}
	}
	return true
}

func TestModel(t *testing.T) {
	for seed := range 60 {
		r := dice(seed)
		d, _ := dev.New(512, 16)
		all := []*twin{{d, newModel()}}
		for i := range 600 {
			x := all[r.roll(0, len(all)-1)]
			if len(all) < 5 && r.roll(0, 60) == 0 {
				all = append(all, &twin{x.d.Copy(), x.m.copy()})
			}
			if !x.step(&r) {
				t.Fatalf("seed %d, step %d: another answer than the model's", seed, i)
			}
			for k, y := range all {
				if !y.alike() {
					t.Fatalf("seed %d, step %d: device %d is not as its model", seed, i, k)
				}
			}
		}
	}
}

// whole tells whether a block is all of one byte: no write was torn by another.
func whole(b []byte) bool { return bytes.Equal(b, fill(b[0])) }

func TestManyHands(t *testing.T) {
	d := device(t)
	const hands, rounds = 8, 200
	var all sync.WaitGroup
	for i := range hands {
		all.Go(func() {
			for k := range rounds {
				if err := d.Write(k%3, fill(byte(i*31+k))); err != api.OK {
					t.Errorf("Write: %v", err)
				}
				if b, err := d.Read(k % 3); err != api.OK || !whole(b) {
					t.Errorf("Read: %v, or a torn block", err)
				}
				switch k % 8 {
				case 0:
					d.Barrier()
				case 1:
					e := d.Copy()
					e.Write(5, fill('x'))
					e.Restart([]int{1, 2, 3})
				case 2:
					d.Flip(3+i, 0, 1)
				case 3:
					d.Arm(0, api.Stop, false)
				case 4:
					d.Count()
				case 5:
					d.Pending()
				case 6:
					d.Off()
				}
			}
		})
	}
	all.Wait()
	counts(t, d, hands*rounds, hands*rounds)
}

func TestHandsCountDown(t *testing.T) { // P1.5: of many hands just one meets the armed change
	d := device(t)
	want(t, "Arm", d.Arm(101, api.Fail, false), api.OK)
	var all sync.WaitGroup
	failed := make([]int, 8)
	for i := range failed {
		all.Go(func() {
			for range 25 {
				if d.Write(i, a) == api.ErrDevFail {
					failed[i]++
				}
			}
		})
	}
	all.Wait()
	sum := 0
	for _, n := range failed {
		sum += n
	}
	if sum != 1 {
		t.Errorf("%d writes failed, want 1", sum)
	}
	counts(t, d, 0, 199)
	waits := 0
	for _, w := range d.Pending() {
		waits += w.Writes
	}
	if waits != 199 {
		t.Errorf("%d writes wait, want 199", waits)
	}
}
