package page_test

import (
	"bytes"
	"encoding/binary"
	"math"
	"slices"
	"sync"
	"testing"

	"banyan/api"
	"banyan/page"
)

// The chapter's table of examples.
func TestExamples(t *testing.T) {
	if a, b := page.Room(512), page.Room(500); a != 480 || b != 0 {
		t.Errorf("Room(512), Room(500): %d, %d", a, b)
	}
	h := api.Head{Kind: api.Leaf, Number: 7, Gen: 2}
	b := seal(t, 512, h, []byte("ab"))
	first := []byte{0x42, 0x59, 3, 0, 0, 0, 0, 7, 0, 0, 0, 0, 0, 0, 0, 2, 0, 0, 0, 2, 0, 0, 0, 0, 0x61, 0x62}
	if !bytes.Equal(b[:26], first) {
		t.Errorf("the first 26 bytes: %x, want %x", b[:26], first)
	}
	opens(t, b, 7, h, []byte("ab"))
	refuses(t, b, 8, api.ErrPageNumber, "of the page 7")
	refuses(t, with(b, 24, 'x'), 7, api.ErrPageSum, "with another byte 24")
	refuses(t, with(b, 26, 'x'), 7, api.ErrPageHead, "with another byte 26")
	refuses(t, with(b, 2, 6), 7, api.ErrPageHead, "with the byte 2 as 6")
	sealRefuses(t, 512, api.Head{Kind: 0, Number: 7, Gen: 2}, []byte("ab"), api.ErrArg)
	sealRefuses(t, 512, h, make([]byte, 481), api.ErrPageLong)
	refuses(t, b[:511], 7, api.ErrPageHead, "cut short")
}

// G1.
func TestRoom(t *testing.T) {
	for _, size := range sizes() {
		if got := page.Room(size); got != size-32 {
			t.Errorf("Room(%d): %d", size, got)
		}
	}
	for _, size := range wrongSizes() {
		if got := page.Room(size); got != 0 {
			t.Errorf("Room(%d): %d, want 0", size, got)
		}
	}
	for size := -5000; size < 9000; size++ {
		if got := page.Room(size); got != 0 && !slices.Contains(sizes(), size) {
			t.Errorf("Room(%d): %d, want 0", size, got)
		}
	}
}

// G2: each byte stands where the table says, of payloads from nothing up to Room.
func TestSealBytes(t *testing.T) {
	d := dice(1)
	for _, size := range sizes() {
		for _, h := range heads() {
			for _, n := range []int{0, 1, 2, d.below(size - 32), size - 33, size - 32} {
				payload := d.text(n)
				if b := seal(t, size, h, payload); !bytes.Equal(b, modelSeal(size, h, payload)) {
					t.Fatalf("Seal(%d, %v, %d bytes): %x", size, h, n, b)
				}
			}
		}
	}
}

// Of no bytes: nil, and a list of none, are one payload.
func TestNothing(t *testing.T) {
	for _, size := range sizes() {
		h := api.Head{Kind: api.Super, Number: 1, Gen: 5}
		b := seal(t, size, h, nil)
		if !bytes.Equal(b, seal(t, size, h, []byte{})) || !bytes.Equal(b, seal(t, size, h, make([]byte, 0, 99))) {
			t.Errorf("of %d bytes: nil and nothing are not the same", size)
		}
		opens(t, b, 1, h, nil)
	}
}

// G2: ErrArg of each argument by itself.
func TestSealArg(t *testing.T) {
	for _, size := range wrongSizes() {
		sealRefuses(t, size, api.Head{Kind: api.Leaf}, nil, api.ErrArg)
		sealRefuses(t, size, api.Head{Kind: api.Leaf}, []byte("ab"), api.ErrArg)
	}
	for _, size := range sizes() {
		for _, h := range wrongHeads() {
			sealRefuses(t, size, h, []byte("ab"), api.ErrArg)
		}
	}
}

// G2: ErrPageLong from one byte above Room on.
func TestSealLong(t *testing.T) {
	for _, size := range sizes() {
		for _, h := range heads() {
			for _, n := range []int{size - 31, size - 24, size - 8, size, size + 1, 65536} {
				sealRefuses(t, size, h, make([]byte, n), api.ErrPageLong)
			}
		}
	}
}

// G2: ErrArg is told ahead of ErrPageLong.
func TestSealOrder(t *testing.T) {
	long := make([]byte, 5000)
	for _, size := range wrongSizes() {
		sealRefuses(t, size, api.Head{Kind: api.Leaf}, long, api.ErrArg)
	}
	for _, h := range wrongHeads() {
		sealRefuses(t, 512, h, long, api.ErrArg)
		sealRefuses(t, 4096, h, long, api.ErrArg)
		sealRefuses(t, 511, h, long, api.ErrArg)
	}
}

// G3.1: lengths that no block has, the bytes being a page's as far as they go.
func TestOpenSize(t *testing.T) {
	whole := append(seal(t, 4096, api.Head{Kind: api.Leaf}, nil), make([]byte, 5000)...)
	refuses(t, nil, 0, api.ErrPageHead, "nil")
	for n := range len(whole) {
		if slices.Contains(sizes(), n) {
			continue
		}
		refuses(t, whole[:n], 0, api.ErrPageHead, "of another length")
		if n >= 32 {
			refuses(t, right(whole[:n]), 0, api.ErrPageHead, "of another length, with its sum")
		}
	}
}

// headRefuses tells that bytes which are no page's are told as such, be their sum right or not, and whatever number is asked.
func headRefuses(t *testing.T, b []byte, number int, what string, of ...any) {
	t.Helper()
	for _, asked := range []int{number, number + 1, -1} {
		refuses(t, right(b), asked, api.ErrPageHead, what, of...)
		refuses(t, with(right(b), len(b)-8, ^b[len(b)-8]), asked, api.ErrPageHead, what, of...)
	}
}

// G3.1: the bytes ahead of the payload, with every other value.
func TestOpenHead(t *testing.T) {
	for _, size := range sizes() {
		for _, n := range []int{0, 2, size - 32} {
			b := seal(t, size, api.Head{Kind: api.Node, Number: 300, Gen: 9}, bytes.Repeat([]byte{'p'}, n))
			for v := range 256 {
				by := byte(v)
				if by != 0x42 {
					headRefuses(t, with(b, 0, by), 300, "first byte", v)
				}
				if by != 0x59 {
					headRefuses(t, with(b, 1, by), 300, "second byte", v)
				}
				if by == 0 || by > 5 {
					headRefuses(t, with(b, 2, by), 300, "kind", v)
				}
				for _, at := range []int{3, 4, 5, 20, 21, 22, 23} {
					if by != 0 {
						headRefuses(t, with(b, at, by), 300, "byte", at, v)
					}
				}
			}
		}
	}
}

// G3.1: every kind of the five is a page's.
func TestOpenKinds(t *testing.T) {
	b := seal(t, 512, api.Head{Kind: api.Super, Number: 5, Gen: 1}, []byte("x"))
	for kind := api.Super; kind <= api.Other; kind++ {
		opens(t, right(with(b, 2, byte(kind))), 5, api.Head{Kind: kind, Number: 5, Gen: 1}, []byte("x"))
	}
}

// G3.1: the greatest number is a page's, the next one is not.
func TestOpenNumberBound(t *testing.T) {
	b := seal(t, 512, api.Head{Kind: api.Leaf, Number: 0, Gen: 1}, nil)
	opens(t, right(with(b, 4, 0, 0, 0xff, 0xff)), 65535, api.Head{Kind: api.Leaf, Number: 65535, Gen: 1}, nil)
	for _, number := range []uint32{65536, 65537, 1 << 20, 1<<31 - 1, 1 << 31, math.MaxUint32} {
		bad := with(b, 4, binary.BigEndian.AppendUint32(nil, number)...)
		headRefuses(t, bad, int(number), "number", number)
		headRefuses(t, bad, int(int32(number)), "number", number)
		headRefuses(t, bad, int(number&0xffff), "number", number)
	}
}

// G3.1: a length of Room is a page's, one more is not, nor any other up to the greatest.
func TestOpenLength(t *testing.T) {
	for _, size := range sizes() {
		room := uint32(size - 32)
		h := api.Head{Kind: api.Leaf, Number: 4, Gen: 3}
		for _, fill := range []byte{0, 0xff} {
			b := seal(t, size, h, bytes.Repeat([]byte{fill}, int(room)))
			opens(t, b, 4, h, bytes.Repeat([]byte{fill}, int(room)))
			for _, n := range []uint32{room + 1, room + 2, room + 8, room + 9, uint32(size), uint32(size) + 1, 65536, 1<<31 - 1, 1 << 31, 1<<31 + 1, math.MaxUint32 - 31, math.MaxUint32} {
				headRefuses(t, with(b, 16, binary.BigEndian.AppendUint32(nil, n)...), 4, "length", n)
			}
		}
	}
}

// G3.1: each byte behind the payload, up to the sum, is 0; the payload may be whatever it is.
func TestOpenNoughts(t *testing.T) {
	for _, size := range sizes() {
		h := api.Head{Kind: api.Branch, Number: 4, Gen: 3}
		for _, n := range []int{0, 1, 100, size - 33, size - 32} {
			b := seal(t, size, h, make([]byte, n))
			for at := 24; at < size-8; at++ {
				c := with(b, at, 0x80)
				if at >= 24+n {
					headRefuses(t, c, 4, "byte behind the payload", n, at)
					continue
				}
				opens(t, right(c), 4, h, c[24:24+n])
				refuses(t, c, 4, api.ErrPageSum, "byte of the payload", n, at)
			}
		}
	}
}

// G3.2: the last eight bytes are not the sum, whatever number is asked.
func TestOpenSum(t *testing.T) {
	for _, size := range sizes() {
		b := seal(t, size, api.Head{Kind: api.Leaf, Number: 7, Gen: 2}, []byte("ab"))
		var others [][]byte
		for bit := range 64 {
			others = append(others, turn(b, 8*(size-8)+bit, 1))
		}
		reversed := bytes.Clone(b)
		slices.Reverse(reversed[size-8:])
		others = append(others, reversed, with(b, size-8, make([]byte, 8)...))
		for _, at := range []int{6, 7, 8, 9, 14, 15, 24, 25} {
			others = append(others, with(b, at, b[at]+1))
		}
		others = append(others, with(b, 2, byte(api.Node)), with(b, 19, 3))
		for i, c := range others {
			refuses(t, c, 7, api.ErrPageSum, "sum of other bytes", i)
			refuses(t, c, 8, api.ErrPageSum, "sum of other bytes, and another number", i)
			refuses(t, c, -1, api.ErrPageSum, "sum of other bytes, and no number", i)
		}
	}
}

// G3.3 and P3.2: a number that is not the page's, also such as have its lowest bits.
func TestOpenNumber(t *testing.T) {
	for _, number := range []int{0, 1, 7, 256, 65535} {
		b := seal(t, 512, api.Head{Kind: api.Leaf, Number: number, Gen: 2}, []byte("ab"))
		for _, other := range []int{math.MinInt, math.MinInt + number, -65536 + number, -number - 1, -1, number + 1, number - 1, number ^ 0x100, number + 65536, number + 1<<32, math.MaxInt} {
			refuses(t, b, other, api.ErrPageNumber, "of the page", number)
		}
	}
}

// P3.2: with the head's number and with every other one.
func TestThereAndBack(t *testing.T) {
	d := dice(2)
	for _, size := range sizes() {
		for _, h := range heads() {
			for _, n := range []int{0, 1, d.below(size - 32), size - 33, size - 32} {
				payload := d.text(n)
				b := seal(t, size, h, payload)
				opens(t, b, h.Number, h, payload)
				refuses(t, b, h.Number+1, api.ErrPageNumber, "of the page", h)
				refuses(t, b, h.Number^0x8000, api.ErrPageNumber, "of the page", h)
			}
		}
	}
	b := seal(t, 512, api.Head{Kind: api.Other, Number: 999, Gen: 8}, nil)
	for number := range api.MaxBlocks {
		if number != 999 {
			refuses(t, b, number, api.ErrPageNumber, "of the page 999")
		}
	}
}

// P3.2 of payloads that end in noughts: they are the payload's, not what stands behind it.
func TestNoughtsOfAPayload(t *testing.T) {
	h := api.Head{Kind: api.Leaf, Number: 2, Gen: 1}
	for _, n := range []int{1, 2, 8, 479, 480} {
		b := seal(t, 512, h, make([]byte, n))
		opens(t, b, 2, h, make([]byte, n))
		if bytes.Equal(b, seal(t, 512, h, make([]byte, n-1))) {
			t.Errorf("%d noughts and one less are one page", n)
		}
	}
}

// spoil makes some bytes of a page other ones, mostly where a page says what it is.
func spoil(d *dice, b []byte) []byte {
	c := bytes.Clone(b)
	for range d.below(4) {
		at := d.below(28)
		switch d.below(4) {
		case 0:
			at = d.below(len(c))
		case 1:
			at = len(c) - 1 - d.below(16)
		}
		c[at] = byte(d.below(8))
		if d.below(3) == 0 {
			c[at] = byte(d.next())
		}
	}
	if d.below(4) > 0 {
		c = right(c)
	}
	return c
}

// G3 and P3.3: bytes of which some are a page's and some are not; Seal of what Open tells is what it took.
func TestOneForm(t *testing.T) {
	d := dice(3)
	var taken, refused int
	for range 20000 {
		size := sizes()[d.below(4)]
		h := d.head()
		payload := d.text(d.below(size - 31))
		if d.below(2) == 0 {
			payload = d.text(d.below(4))
		}
		b := spoil(&d, seal(t, size, h, payload))
		number := h.Number
		if d.below(8) == 0 {
			number = int(binary.BigEndian.Uint32(b[4:]))
		}
		wantHead, wantPayload, want := modelOpen(b, number)
		if want != api.OK {
			refuses(t, b, number, want, "some bytes of it being others")
			refused++
			continue
		}
		taken++
		opens(t, b, number, wantHead, wantPayload)
		got, told, _ := page.Open(b, number)
		if !bytes.Equal(seal(t, size, got, told), b) {
			t.Errorf("Seal of what Open tells is not what it took: %v, %x", got, b)
		}
	}
	if taken < 2000 || refused < 2000 {
		t.Errorf("%d taken and %d refused: the test tries too few of one", taken, refused)
	}
}

// P3.3 of bytes that were laid by hand.
func TestOneFormByHand(t *testing.T) {
	d := dice(4)
	for _, size := range sizes() {
		for _, h := range heads() {
			b := modelSeal(size, h, d.text(d.below(size-31)))
			got, payload, err := page.Open(b, h.Number)
			if err != api.OK || !bytes.Equal(seal(t, size, got, payload), b) {
				t.Errorf("of %d bytes, %v: %v, %v", size, h, got, err)
			}
		}
	}
}

// Bytes of no form at all are no page.
func TestOpenThrown(t *testing.T) {
	d := dice(5)
	for _, size := range sizes() {
		for _, b := range [][]byte{make([]byte, size), bytes.Repeat([]byte{0xff}, size), d.text(size), d.text(size)} {
			headRefuses(t, b, 0, "thrown bytes")
		}
	}
}

// turn puts 64 bits to those of a block from one on; those behind its end are left off.
func turn(b []byte, from int, bits uint64) []byte {
	c := bytes.Clone(b)
	for i := range 64 {
		if at := from + i; bits>>i&1 == 1 && at < 8*len(c) {
			c[at/8] ^= 1 << (at % 8)
		}
	}
	return c
}

// patterns are bits that may be turned within 64, the first one always: it alone, two at every distance, all up to each one, those of the sum's divisor, thrown ones.
func patterns() []uint64 {
	list := []uint64{1, math.MaxUint64, 0xc96c5795d7870f43, 0x42f0e1eba9ea3693, 0x92d8af2baf0e1e85}
	for i := range 63 {
		list = append(list, 1|1<<(i+1), ^uint64(0)>>(i+1)|1)
	}
	d := dice(6)
	for range 30 {
		list = append(list, d.next()|1)
	}
	return list
}

// spoilt tells that a page whose bits were turned is told as none.
func spoilt(t *testing.T, b []byte, number int, from int, bits uint64) {
	t.Helper()
	h, p, err := page.Open(turn(b, from, bits), number)
	if err != api.ErrPageHead && err != api.ErrPageSum || h != (api.Head{}) || len(p) != 0 {
		t.Fatalf("%d bytes, %x turned from %d on: %v, %d bytes, %v", len(b), bits, from, h, len(p), err)
	}
}

// turningPlaces are bits of a block from which others are turned: at its begin, around the payload's begin and its end, across the border of the sum, within the sum, and the last one.
func turningPlaces(size int, n int) []int {
	var list []int
	for _, border := range []int{0, 8 * 24, 8 * (24 + n), 8 * (size - 8), 8 * size} {
		for _, far := range []int{-65, -64, -63, -33, -9, -8, -7, -1, 0, 1, 7, 8, 31, 56, 63} {
			if from := border + far; from >= 0 && from < 8*size {
				list = append(list, from)
			}
		}
	}
	return list
}

// P3.4: many bits within 64, at both ends of a page and across the border of its sum.
func TestTurned(t *testing.T) {
	d := dice(7)
	for _, size := range sizes() {
		for _, n := range []int{0, 3, size - 32} {
			b := seal(t, size, api.Head{Kind: api.Node, Number: 0x1234, Gen: 9}, d.text(n))
			for _, from := range turningPlaces(size, n) {
				for _, bits := range patterns() {
					spoilt(t, b, 0x1234, from, bits)
				}
			}
		}
	}
}

// P3.4: from every bit of a whole block.
func TestTurnedEverywhere(t *testing.T) {
	d := dice(8)
	for _, size := range sizes() {
		b := seal(t, size, api.Head{Kind: api.Leaf, Number: 3, Gen: 1 << 40}, d.text(size/2))
		for from := range 8 * size {
			spoilt(t, b, 3, from, 1)
			spoilt(t, b, 3, from, d.next()|1)
		}
	}
}

// P3.4: a page that was turned into one of another number is told as turned, by its own number and by the other.
func TestTurnedNumber(t *testing.T) {
	b := seal(t, 512, api.Head{Kind: api.Leaf, Number: 3, Gen: 1}, []byte("ab"))
	for bit := range 16 {
		c := turn(b, 8*6+bit, 1)
		refuses(t, c, 3, api.ErrPageSum, "a bit of its number turned", bit)
		refuses(t, c, int(c[6])<<8+int(c[7]), api.ErrPageSum, "a bit of its number turned", bit)
	}
}

// P3: what is handed in stays as it was, and what stands behind it too.
func TestLeftAlone(t *testing.T) {
	d := dice(9)
	room := d.text(9000)
	h := api.Head{Kind: api.Leaf, Number: 7, Gen: 2}
	for _, size := range sizes() {
		for _, n := range []int{0, 1, size - 32, size - 31, 8000} {
			old := bytes.Clone(room)
			b, err := page.Seal(size, h, room[:n])
			if !bytes.Equal(room, old) {
				t.Errorf("Seal(%d, .., %d bytes) wrote into what was handed in", size, n)
			}
			if err != api.OK {
				continue
			}
			all := append(b, room...)
			for _, c := range [][]byte{all[:size], all[:size-1], all[1 : size+1], turn(all, 8*24, 1)[:size], turn(all, 8*(size-8), 1)[:size]} {
				behind := c[:cap(c)]
				old := bytes.Clone(behind)
				page.Open(c, 7)
				page.Open(c, 8)
				if !bytes.Equal(behind, old) {
					t.Errorf("Open of %d bytes wrote into what was handed in", len(c))
				}
			}
		}
	}
}

// overwrite turns all bytes of a list and of its spare room.
func overwrite(b []byte) {
	b = b[:cap(b)]
	for i := range b {
		b[i] = ^b[i]
	}
}

// P3: an answer is new memory: it shares none with what was handed in, nor with another answer.
func TestNewMemory(t *testing.T) {
	h := api.Head{Kind: api.Leaf, Number: 7, Gen: 2}
	for _, n := range []int{0, 1, 5, 480} {
		payload := bytes.Repeat([]byte{'p'}, n)
		wanted := bytes.Clone(payload)
		block := modelSeal(512, h, wanted)

		first, second := seal(t, 512, h, payload), seal(t, 512, h, payload)
		overwrite(payload)
		overwrite(first)
		if !bytes.Equal(second, block) {
			t.Errorf("Seal of %d bytes: the answer changes with another one, or with the payload", n)
		}

		_, p, _ := page.Open(second, 7)
		_, q, _ := page.Open(second, 7)
		overwrite(p)
		if !bytes.Equal(second, block) || !bytes.Equal(q, wanted) {
			t.Errorf("Open of %d bytes: what is written into its answer is seen elsewhere", n)
		}
		overwrite(second)
		if !bytes.Equal(q, wanted) {
			t.Errorf("Open of %d bytes: the answer changes with the block", n)
		}
	}
}

// P4: what a call answers hangs on its arguments alone, whoever else calls.
func TestManyHands(t *testing.T) {
	shared := modelSeal(1024, api.Head{Kind: api.Node, Number: 9, Gen: 4}, []byte("shared"))
	var hands sync.WaitGroup
	for hand := range 8 {
		hands.Go(func() {
			d := dice(100 + hand)
			for range 60 {
				size, h := sizes()[d.below(4)], d.head()
				payload := d.text(d.below(size - 31))
				b, err := page.Seal(size, h, payload)
				if err != api.OK || !bytes.Equal(b, modelSeal(size, h, payload)) {
					t.Errorf("Seal by one of many hands: %v", err)
					return
				}
				opens(t, b, h.Number, h, payload)
				opens(t, shared, 9, api.Head{Kind: api.Node, Number: 9, Gen: 4}, []byte("shared"))
			}
		})
	}
	hands.Wait()
}
