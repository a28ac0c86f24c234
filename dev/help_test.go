package dev_test

import (
	"bytes"
	"slices"
	"testing"

	"banyan/api"
	"banyan/dev"
)

// fill is a block of 512 bytes, all the same.
func fill(b byte) []byte { return bytes.Repeat([]byte{b}, 512) }

// device makes one of 16 blocks of 512 bytes.
func device(t *testing.T) *dev.Dev {
	t.Helper()
	d, err := dev.New(512, 16)
	if d == nil || err != api.OK {
		t.Fatalf("New(512, 16): %v, %v", d, err)
	}
	return d
}

// want holds an answered number against the one that is asked.
func want(t *testing.T, what string, got api.Errno, asked api.Errno) {
	t.Helper()
	if got != asked {
		t.Errorf("%s: %v, want %v", what, got, asked)
	}
}

// write writes a block that must be taken.
func write(t *testing.T, d *dev.Dev, n int, b []byte) {
	t.Helper()
	want(t, "Write", d.Write(n, b), api.OK)
}

// barrier makes one that must be taken.
func barrier(t *testing.T, d *dev.Dev) {
	t.Helper()
	want(t, "Barrier", d.Barrier(), api.OK)
}

// shows holds what a block shows against bytes.
func shows(t *testing.T, d *dev.Dev, n int, asked []byte) {
	t.Helper()
	got, err := d.Read(n)
	if err != api.OK {
		t.Errorf("Read %d: %v", n, err)
		return
	}
	if !bytes.Equal(got, asked) {
		t.Errorf("Read %d: %d bytes %q.., want %d bytes %q..", n, len(got), got[:8], len(asked), asked[:8])
	}
}

// refuses tells that a block cannot be read, and that nothing comes beside the error.
func refuses(t *testing.T, d *dev.Dev, n int, asked api.Errno) {
	t.Helper()
	got, err := d.Read(n)
	if err != asked || len(got) != 0 {
		t.Errorf("Read %d: %d bytes, %v, want none, %v", n, len(got), err, asked)
	}
}

// pending holds what waits against pairs of a block and its writes.
func pending(t *testing.T, d *dev.Dev, asked ...api.Wait) {
	t.Helper()
	if got := d.Pending(); !slices.Equal(got, asked) {
		t.Errorf("Pending: %v, want %v", got, asked)
	}
}

// counts holds Count against two numbers.
func counts(t *testing.T, d *dev.Dev, reads uint64, writes uint64) {
	t.Helper()
	if r, w := d.Count(); r != reads || w != writes {
		t.Errorf("Count: %d, %d, want %d, %d", r, w, reads, writes)
	}
}

// face is all that Read tells of a device's blocks: bytes or an error.
type face struct {
	bytes []byte
	err   api.Errno
}

// faceOf reads all blocks of a device, by a copy, so that Count stays.
func faceOf(d *dev.Dev) []face {
	c := d.Copy()
	var list []face
	for n := range c.Blocks() {
		b, err := c.Read(n)
		list = append(list, face{b, err})
	}
	return list
}

// sameFace tells whether two devices show the same.
func sameFace(a []face, b []face) bool {
	return slices.EqualFunc(a, b, func(x face, y face) bool {
		return x.err == y.err && bytes.Equal(x.bytes, y.bytes)
	})
}

// busy is a device of which some blocks last, one is garbled, and some wait.
func busy(t *testing.T) *dev.Dev {
	t.Helper()
	d := device(t)
	write(t, d, 0, fill('z'))
	d.Restart([]int{2})
	for n := 1; n < 6; n++ {
		write(t, d, n, fill(byte('a'+n)))
	}
	barrier(t, d)
	for n := 3; n < 9; n++ {
		for v := range n - 2 {
			write(t, d, n, fill(byte('A'+v)))
		}
	}
	return d
}
