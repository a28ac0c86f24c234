package dev_test

import (
	"bytes"
	"math"
	"slices"
	"testing"

	"banyan/api"
	"banyan/dev"
)

var a, b, c, noughts = fill('a'), fill('b'), fill('c'), fill(0)

func TestExample1Fates(t *testing.T) {
	d := device(t)
	write(t, d, 3, a)
	barrier(t, d)
	write(t, d, 3, b)
	write(t, d, 3, c)
	write(t, d, 5, a)
	pending(t, d, api.Wait{Block: 3, Writes: 2}, api.Wait{Block: 5, Writes: 1})
	shows(t, d, 3, c)
	for _, x := range []struct {
		fates       []int
		three, five []byte
	}{
		{nil, a, noughts},
		{[]int{1}, b, noughts},
		{[]int{2, 1}, c, a},
		{[]int{3}, nil, noughts},
		{[]int{0, 1}, a, a},
		{[]int{4, -1}, a, noughts},
		{[]int{2, 2}, c, nil},
		{[]int{math.MaxInt, math.MinInt}, a, noughts},
		{[]int{0, 0, 1, 2, 3}, a, noughts},
	} {
		e := d.Copy()
		e.Restart(x.fates)
		pending(t, e)
		for n, asked := range map[int][]byte{3: x.three, 5: x.five} {
			if asked == nil {
				refuses(t, e, n, api.ErrDevBad)
			} else {
				shows(t, e, n, asked)
			}
		}
		shows(t, e, 4, noughts)
	}
}

func TestExample2Garbled(t *testing.T) {
	d := device(t)
	write(t, d, 3, a)
	barrier(t, d)
	write(t, d, 3, b)
	write(t, d, 3, c)
	d.Restart([]int{3})
	refuses(t, d, 3, api.ErrDevBad)
	write(t, d, 3, b)
	shows(t, d, 3, b)
	d.Restart(nil)
	refuses(t, d, 3, api.ErrDevBad)
	write(t, d, 3, b)
	barrier(t, d)
	d.Restart(nil)
	shows(t, d, 3, b)
}

func TestExample3Armed(t *testing.T) {
	d := device(t)
	write(t, d, 2, c)
	want(t, "Arm", d.Arm(2, api.Stop, false), api.OK)
	write(t, d, 4, a)
	want(t, "Barrier", d.Barrier(), api.ErrDevOff)
	if !d.Off() {
		t.Error("the power is on")
	}
	refuses(t, d, 0, api.ErrDevOff)
	pending(t, d, api.Wait{Block: 2, Writes: 1}, api.Wait{Block: 4, Writes: 1})

	d = device(t)
	want(t, "Arm", d.Arm(1, api.Fail, true), api.OK)
	want(t, "Write", d.Write(4, a), api.ErrDevFail)
	shows(t, d, 4, a)
}

func TestExample4Wrong(t *testing.T) {
	for _, x := range [][2]int{
		{513, 16}, {512, 15}, {512, 65537}, {0, 16}, {-512, 16}, {256, 16}, {511, 16}, {1536, 16}, {8192, 16},
		{4097, 16}, {512, 0}, {512, -16}, {math.MaxInt, math.MaxInt}, {math.MinInt, math.MinInt},
	} {
		if d, err := dev.New(x[0], x[1]); d != nil || err != api.ErrArg {
			t.Errorf("New(%d, %d): %v, %v", x[0], x[1], d, err)
		}
	}
	d := device(t)
	for _, n := range []int{16, -1, math.MaxInt, math.MinInt} {
		refuses(t, d, n, api.ErrDevRange)
		want(t, "Write", d.Write(n, a), api.ErrDevRange)
		want(t, "Flip", d.Flip(n, 0, 1), api.ErrDevRange)
	}
	for _, x := range [][]byte{nil, {}, a[:511], make([]byte, 513), make([]byte, 1024)} {
		want(t, "Write of a wrong size", d.Write(0, x), api.ErrDevRange)
	}
	for _, at := range []int{512, -1, math.MaxInt, math.MinInt} {
		want(t, "Flip", d.Flip(0, at, 1), api.ErrDevRange)
	}
	want(t, "Arm(1, 2)", d.Arm(1, 2, true), api.ErrArg)
	want(t, "Arm(0, -1)", d.Arm(0, -1, true), api.ErrArg)
	want(t, "Arm(-1)", d.Arm(-1, api.Stop, true), api.ErrArg)
	want(t, "Arm(least)", d.Arm(math.MinInt, api.Fail, true), api.ErrArg)
	pending(t, d)
	counts(t, d, 0, 0)
}

func TestExample5Flip(t *testing.T) {
	d := device(t)
	write(t, d, 0, a)
	barrier(t, d)
	write(t, d, 0, b)
	want(t, "Flip", d.Flip(0, 7, 3), api.OK)
	turned := fill('b')
	turned[7] = 'a'
	shows(t, d, 0, turned)
	d.Restart(nil)
	shows(t, d, 0, a)
}

func TestExample6Count(t *testing.T) {
	d := device(t)
	counts(t, d, 0, 0)
	d.Read(0)
	d.Read(99)
	d.Write(1, a)
	counts(t, d, 1, 1)
}

func TestSizes(t *testing.T) {
	for _, size := range []int{512, 1024, 2048, 4096} {
		for _, blocks := range []int{16, 17, 65535, 65536} {
			d, err := dev.New(size, blocks)
			if d == nil || err != api.OK {
				t.Fatalf("New(%d, %d): %v", size, blocks, err)
			}
			if d.Size() != size || d.Blocks() != blocks || d.Off() {
				t.Errorf("%d, %d: Size %d, Blocks %d, Off %v", size, blocks, d.Size(), d.Blocks(), d.Off())
			}
			pending(t, d)
			shows(t, d, blocks-1, make([]byte, size))
			x := bytes.Repeat([]byte{7}, size)
			write(t, d, blocks-1, x)
			barrier(t, d)
			shows(t, d, blocks-1, x)
			shows(t, d, 0, make([]byte, size))
			want(t, "Flip", d.Flip(0, size-1, 9), api.OK)
			refuses(t, d, blocks, api.ErrDevRange)
		}
	}
}

func TestLasting(t *testing.T) { // P1.1
	d := busy(t)
	want(t, "Flip", d.Flip(8, 1, 1), api.OK)
	before := faceOf(d)
	barrier(t, d)
	pending(t, d)
	for _, fates := range [][]int{nil, {0}, {1, 1, 1, 1, 1, 1, 1, 1, 1}, {2, 2, 2, 2, 2, 2, 2, 2, 2}} {
		e := d.Copy()
		e.Restart(fates)
		if !sameFace(faceOf(e), before) {
			t.Errorf("fates %v: not what lasted", fates)
		}
	}
	write(t, d, 6, fill('x'))
	d.Restart([]int{2, 2, 2})
	after := faceOf(d)
	if after[6].err != api.ErrDevBad {
		t.Errorf("block 6: %v", after[6].err)
	}
	before[6] = after[6]
	if !sameFace(after, before) {
		t.Error("a block of which no write waited is not what it was")
	}
}

func TestBlockByBlock(t *testing.T) { // P1.2
	d := busy(t)
	before := faceOf(d)
	for k, w := range d.Pending() {
		lasting := noughts
		if w.Block < 6 {
			lasting = fill(byte('a' + w.Block))
		}
		for fate := -1; fate <= w.Writes+2; fate++ {
			e := d.Copy()
			fates := slices.Repeat([]int{0}, k)
			e.Restart(append(fates, fate))
			switch {
			case fate >= 1 && fate <= w.Writes:
				shows(t, e, w.Block, fill(byte('A'+fate-1)))
			case fate == w.Writes+1:
				refuses(t, e, w.Block, api.ErrDevBad)
			default:
				shows(t, e, w.Block, lasting)
			}
			after := faceOf(e)
			for _, n := range []int{0, 1, 2, 9, 15} {
				if !sameFace(after[n:n+1], before[n:n+1]) {
					t.Errorf("fate %d of block %d: block %d is not what it was", fate, w.Block, n)
				}
			}
		}
	}
}

func TestGarbledFates(t *testing.T) { // P1.2, of a block that was garbled ahead
	d := device(t)
	write(t, d, 3, a)
	d.Restart([]int{2})
	write(t, d, 3, b)
	write(t, d, 3, c)
	for fate, asked := range map[int][]byte{-1: nil, 0: nil, 1: b, 2: c, 3: nil, 4: nil} {
		e := d.Copy()
		e.Restart([]int{fate})
		if asked == nil {
			refuses(t, e, 3, api.ErrDevBad)
			continue
		}
		shows(t, e, 3, asked)
	}
}

func TestRestartTwice(t *testing.T) { // P1.3
	for _, fates := range [][]int{nil, {1, 2, 0, 1, 6, 7}, {2, 3, 4, 5, 6, 7}} {
		d := busy(t)
		d.Restart(fates)
		before := faceOf(d)
		for _, others := range [][]int{nil, {1, 1, 1, 1}, {2, 2, 2, 2, 2, 2}} {
			e := d.Copy()
			e.Restart(others)
			if !sameFace(faceOf(e), before) {
				t.Errorf("fates %v, then %v: something is changed", fates, others)
			}
		}
		barrier(t, d)
		if !sameFace(faceOf(d), before) {
			t.Errorf("fates %v, then a Barrier: something is changed", fates)
		}
	}
}

func TestCopy(t *testing.T) { // P1.4
	touch := func(d *dev.Dev) {
		for n := range 10 {
			d.Flip(n, n, 0xff)
			d.Write(n, fill('q'))
			d.Flip(n, n, 0x0f)
		}
		d.Barrier()
		d.Write(15, fill('r'))
		d.Read(1)
		d.Arm(1, api.Stop, true)
		d.Write(14, fill('r'))
	}
	first := busy(t)
	second := first.Copy()
	before, waits := faceOf(first), first.Pending()
	reads, writes := first.Count()
	for _, x := range [][2]*dev.Dev{{first, second}, {second.Copy(), second}} {
		touch(x[0])
		if !x[0].Off() || x[1].Off() || !sameFace(faceOf(x[1]), before) {
			t.Error("what is done with the one is seen on the other")
		}
		pending(t, x[1], waits...)
		counts(t, x[1], reads, writes)
	}
	second.Restart([]int{1, 2, 3, 4, 5, 6})
	if !first.Off() {
		t.Error("a Restart of the copy is seen on the other")
	}
}

func TestCopiesOfOneList(t *testing.T) { // P1.4: what waits grows on both
	for ahead := range 9 {
		d := device(t)
		for v := range ahead {
			write(t, d, 3, fill(byte(v)))
		}
		e := d.Copy()
		write(t, d, 3, a)
		write(t, e, 3, b)
		shows(t, d, 3, a)
		shows(t, e, 3, b)
		want(t, "Flip", d.Flip(3, 0, 1), api.OK)
		shows(t, e, 3, b)
		d.Restart([]int{ahead + 1})
		e.Restart([]int{ahead + 1})
		turned := fill('a')
		turned[0] ^= 1
		shows(t, d, 3, turned)
		shows(t, e, 3, b)
	}
}

func TestCopyArmed(t *testing.T) { // P1.4: power and arming go along
	d := device(t)
	want(t, "Arm", d.Arm(3, api.Stop, true), api.OK)
	write(t, d, 1, a)
	e := d.Copy()
	write(t, e, 2, a)
	want(t, "Write", e.Write(3, a), api.ErrDevOff)
	write(t, d, 4, a)
	want(t, "Barrier", d.Barrier(), api.ErrDevOff)
	pending(t, e, api.Wait{Block: 1, Writes: 1}, api.Wait{Block: 2, Writes: 1}, api.Wait{Block: 3, Writes: 1})
	pending(t, d)
	f := e.Copy()
	if !f.Off() {
		t.Error("a copy of a device that is off is on")
	}
	f.Restart(nil)
	if f.Off() || !e.Off() {
		t.Error("a Restart of a copy is seen, or is none")
	}
	if f.Size() != 512 || f.Blocks() != 16 {
		t.Errorf("a copy of %d blocks of %d bytes", f.Blocks(), f.Size())
	}
}

func TestArmed(t *testing.T) { // P1.5
	for n := 1; n <= 6; n++ {
		for _, how := range []api.How{api.Stop, api.Fail} {
			for _, done := range []bool{false, true} {
				armedWrite(t, n, how, done)
				armedBarrier(t, n, how, done)
			}
		}
	}
}

// armedWith makes a device of which n - 1 changes answered as ever, and its twin, which was never armed.
func armedWith(t *testing.T, n int, how api.How, done bool) (*dev.Dev, *dev.Dev) {
	t.Helper()
	d := busy(t)
	twin := d.Copy()
	want(t, "Arm", d.Arm(n, how, done), api.OK)
	for i := range n - 1 {
		// What is refused is no change, nor is what changes nothing that lasts.
		want(t, "Write", d.Write(16, a), api.ErrDevRange)
		want(t, "Write", d.Write(1, a[:1]), api.ErrDevRange)
		d.Read(1)
		d.Flip(2, 2, 0)
		d.Count()
		d.Pending()
		if i%3 == 2 {
			want(t, "Barrier", d.Barrier(), twin.Barrier())
		} else {
			want(t, "Write", d.Write(i, fill(byte(i))), twin.Write(i, fill(byte(i))))
		}
		if !sameFace(faceOf(d), faceOf(twin)) || d.Off() {
			t.Errorf("armed with %d: change %d is not as ever", n, i+1)
		}
	}
	return d, twin
}

// answered holds the last change's answer, and the power, against what the device was armed with.
func answered(t *testing.T, d *dev.Dev, got api.Errno, how api.How) {
	t.Helper()
	asked := api.ErrDevOff
	if how == api.Fail {
		asked = api.ErrDevFail
	}
	want(t, "the last change", got, asked)
	if d.Off() != (how == api.Stop) {
		t.Errorf("how %d: Off is %v", how, d.Off())
	}
}

func armedWrite(t *testing.T, n int, how api.How, done bool) {
	t.Helper()
	d, twin := armedWith(t, n, how, done)
	_, before := d.Count()
	answered(t, d, d.Write(9, fill('l')), how)
	if _, after := d.Count(); after != before {
		t.Error("a Write that answered an error is counted")
	}
	if done {
		write(t, twin, 9, fill('l'))
	}
	pending(t, d, twin.Pending()...)
	fates := slices.Repeat([]int{1}, 16)
	if how == api.Stop {
		d.Restart(fates)
		twin.Restart(fates)
	}
	if !sameFace(faceOf(d), faceOf(twin)) {
		t.Errorf("armed with %d, how %d, done %v: the last Write", n, how, done)
	}
	write(t, d, 1, a)
	barrier(t, d)
}

func armedBarrier(t *testing.T, n int, how api.How, done bool) {
	t.Helper()
	d, twin := armedWith(t, n, how, done)
	answered(t, d, d.Barrier(), how)
	if done {
		barrier(t, twin)
	}
	pending(t, d, twin.Pending()...)
	d.Restart(nil)
	twin.Restart(nil)
	if !sameFace(faceOf(d), faceOf(twin)) {
		t.Errorf("armed with %d, how %d, done %v: the last Barrier", n, how, done)
	}
	write(t, d, 1, a)
	barrier(t, d)
}

func TestArmedAnew(t *testing.T) {
	d := device(t)
	want(t, "Arm", d.Arm(1, api.Stop, false), api.OK)
	want(t, "Arm", d.Arm(2, api.Fail, true), api.OK)
	write(t, d, 0, a)
	want(t, "Arm(-1)", d.Arm(-1, api.Stop, false), api.ErrArg)
	want(t, "Write", d.Write(0, b), api.ErrDevFail)
	want(t, "Arm", d.Arm(1, api.Fail, false), api.OK)
	want(t, "Arm(0)", d.Arm(0, api.Stop, false), api.OK)
	write(t, d, 0, c)
	want(t, "Arm", d.Arm(1, api.Stop, false), api.OK)
	d.Restart(nil)
	write(t, d, 0, c)
	want(t, "Arm", d.Arm(math.MaxInt, api.Stop, false), api.OK)
	barrier(t, d)
	write(t, d, 0, c)
}

func TestOff(t *testing.T) {
	d := device(t)
	write(t, d, 1, a)
	shows(t, d, 1, a)
	want(t, "Arm", d.Arm(1, api.Stop, false), api.OK)
	want(t, "Write", d.Write(2, b), api.ErrDevOff)
	for _, n := range []int{-1, 1, 2, 16} {
		refuses(t, d, n, api.ErrDevOff)
		want(t, "Write", d.Write(n, a), api.ErrDevOff)
		want(t, "Write", d.Write(n, nil), api.ErrDevOff)
		want(t, "Flip", d.Flip(n, 600, 1), api.ErrDevOff)
		want(t, "Flip", d.Flip(n, 0, 1), api.ErrDevOff)
	}
	want(t, "Barrier", d.Barrier(), api.ErrDevOff)
	for _, n := range []int{-1, 0, 1} {
		want(t, "Arm", d.Arm(n, api.Stop, true), api.ErrDevOff)
		want(t, "Arm", d.Arm(n, 9, true), api.ErrDevOff)
	}
	if d.Size() != 512 || d.Blocks() != 16 || !d.Off() {
		t.Error("Size, Blocks or Off of a device that is off")
	}
	counts(t, d, 1, 1)
	pending(t, d, api.Wait{Block: 1, Writes: 1})
	d.Restart([]int{1})
	if d.Off() {
		t.Error("off behind a Restart")
	}
	shows(t, d, 1, a)
	shows(t, d, 2, noughts)
	write(t, d, 2, b)
	counts(t, d, 3, 2)
}

func TestFlipTwice(t *testing.T) { // P1.6
	d := busy(t)
	before, waits := faceOf(d), d.Pending()
	for n := range 16 {
		for _, at := range []int{0, 7, 511} {
			for _, by := range []byte{0, 1, 0x80, 0xff} {
				asked := before[n].err
				want(t, "Flip", d.Flip(n, at, by), asked)
				if once := faceOf(d); asked == api.OK && once[n].bytes[at] != before[n].bytes[at]^by {
					t.Errorf("Flip(%d, %d, %d): the byte is %d", n, at, by, once[n].bytes[at])
				}
				want(t, "Flip", d.Flip(n, at, by), asked)
				if !sameFace(faceOf(d), before) {
					t.Fatalf("Flip(%d, %d, %d) twice changes something", n, at, by)
				}
			}
		}
	}
	pending(t, d, waits...)
}

func TestFlipOfOne(t *testing.T) {
	d := device(t)
	write(t, d, 3, a)
	barrier(t, d)
	want(t, "Flip", d.Flip(3, 5, 1), api.OK)
	write(t, d, 3, b)
	write(t, d, 3, c)
	want(t, "Arm", d.Arm(1, api.Stop, false), api.OK)
	want(t, "Flip", d.Flip(3, 5, 2), api.OK) // no change: the power stays
	counts(t, d, 0, 3)
	pending(t, d, api.Wait{Block: 3, Writes: 2})
	lasting, newest := fill('a'), fill('c')
	lasting[5] ^= 1
	newest[5] ^= 2
	for fate, asked := range [][]byte{lasting, b, newest} {
		e := d.Copy()
		e.Restart([]int{fate})
		shows(t, e, 3, asked)
	}
}

func TestFlipOfNoughts(t *testing.T) {
	d := device(t)
	want(t, "Flip", d.Flip(4, 511, 9), api.OK)
	pending(t, d)
	turned := fill(0)
	turned[511] = 9
	d.Restart([]int{2})
	shows(t, d, 4, turned)
	shows(t, d, 5, noughts)
}

func TestCount(t *testing.T) {
	d := device(t)
	write(t, d, 3, a)
	d.Restart([]int{2})
	refuses(t, d, 3, api.ErrDevBad)
	refuses(t, d, 16, api.ErrDevRange)
	want(t, "Write", d.Write(0, a[:5]), api.ErrDevRange)
	counts(t, d, 0, 1)
	shows(t, d, 2, noughts)
	shows(t, d, 2, noughts)
	barrier(t, d)
	d.Flip(2, 2, 2)
	counts(t, d, 2, 1)
	e := d.Copy()
	shows(t, e, 1, noughts)
	write(t, e, 1, a)
	counts(t, e, 3, 2)
	counts(t, d, 2, 1)
	e.Restart(nil)
	counts(t, e, 3, 2)
}

func TestMemory(t *testing.T) { // DOC.md's P3
	d := device(t)
	roomy := append(make([]byte, 0, 600), a...)
	behind := roomy[512:600]
	write(t, d, 3, roomy)
	roomy[0] = 'x'
	behind[0] = 'y'
	shows(t, d, 3, a)
	barrier(t, d)
	roomy[1] = 'x'
	shows(t, d, 3, a)
	for _, n := range []int{3, 4} { // one that stands, one of noughts
		first, _ := d.Read(n)
		second, _ := d.Read(n)
		clear(first[:cap(first)])
		first[9] = 'w'
		if bytes.Equal(first, second) {
			t.Error("two answers share memory")
		}
		shows(t, d, n, second)
	}
	write(t, d, 5, b)
	waits := d.Pending()
	waits[0] = api.Wait{Block: 9, Writes: 9}
	pending(t, d, api.Wait{Block: 5, Writes: 1})
	waiting, _ := d.Read(5)
	clear(waiting)
	shows(t, d, 5, b)
	d.Flip(5, 0, 1)
	fates := append(make([]int, 0, 3), 2)
	d.Restart(fates)
	if !slices.Equal(fates[:3], []int{2, 0, 0}) || !bytes.Equal(b, fill('b')) {
		t.Error("an argument was written into")
	}
}

func TestApart(t *testing.T) { // DOC.md's P4: two devices have nothing to do with one another
	d, e := device(t), device(t)
	write(t, d, 3, a)
	d.Flip(4, 4, 4)
	d.Arm(1, api.Stop, false)
	d.Barrier()
	shows(t, e, 3, noughts)
	shows(t, e, 4, noughts)
	pending(t, e)
	if e.Off() {
		t.Error("the other one is off")
	}
	barrier(t, e)
	counts(t, e, 2, 0)
}

func TestErrors(t *testing.T) { // DOC.md's P5: the numbers of the chapter
	for got, asked := range map[api.Errno]int{
		api.ErrArg: 1, api.ErrDevRange: 11, api.ErrDevOff: 12, api.ErrDevFail: 13, api.ErrDevBad: 14,
	} {
		if int(got) != asked {
			t.Errorf("%d, want %d", int(got), asked)
		}
	}
}
