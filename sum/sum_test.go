package sum_test

import (
	"bytes"
	"hash/crc64"
	"math"
	"slices"
	"sync"
	"testing"

	"banyan/sum"
)

// The chapter's words and its table of examples.
func TestExamples(t *testing.T) {
	same(t, sum.Of([]byte("123456789")), 0x995dc9bbdf1939fa, "Of 123456789")
	same(t, sum.Of([]byte("a")), 0x330284772e652b05, "Of a")
	same(t, sum.Of([]byte{0}), 0x1fada17364673f59, "Of a byte 0")
	same(t, sum.Of(nil), 0, "Of nil")
	same(t, sum.Of([]byte{}), 0, "Of nothing")
	same(t, sum.Of([]byte("1234")), 0xce4e879366b8c328, "Of 1234")
	same(t, sum.More(0xce4e879366b8c328, []byte("56789")), 0x995dc9bbdf1939fa, "More of 1234 and 56789")
	same(t, sum.Join(0xce4e879366b8c328, sum.Of([]byte("56789")), 5), 0x995dc9bbdf1939fa, "Join of 1234 and 56789")
	same(t, sum.Join(1, 0, 1), 0xb32e4cbe03a75f6f, "Join(1, 0, 1)")
	same(t, sum.Join(5, 7, 0), 2, "Join(5, 7, 0)")
	same(t, sum.Join(5, 7, -3), 2, "Join(5, 7, -3)")
}

// Of is the sum that the section 'Words' makes, bit by bit.
func TestOf(t *testing.T) {
	for _, b := range texts() {
		same(t, sum.Of(b), bitwise(b), "Of a text of", len(b))
	}
	for i := range 256 {
		same(t, sum.Of([]byte{byte(i)}), bitwise([]byte{byte(i)}), "Of the byte", i)
	}
	d := dice(3)
	for n := range 200 {
		b := d.text(n)
		same(t, sum.Of(b), bitwise(b), "Of a thrown text of", n)
	}
}

// The library has this sum as well, where the lowest bits come first.
func TestOfIsTheLibrarys(t *testing.T) {
	known := crc64.MakeTable(crc64.ECMA)
	for _, b := range texts() {
		same(t, sum.Of(b), crc64.Checksum(b, known), "Of a text of", len(b))
	}
}

// More goes on from every number; of no bytes it is that number.
func TestMore(t *testing.T) {
	list := texts()
	for _, s := range numbers() {
		same(t, sum.More(s, nil), s, "More of nil and", s)
		same(t, sum.More(s, []byte{}), s, "More of nothing and", s)
		for _, b := range list {
			same(t, sum.More(s, b), bitwiseMore(s, b), "More", s, len(b))
		}
	}
}

// Join is what its words make of More, for each small n.
func TestJoin(t *testing.T) {
	b := dice(4)
	for _, a := range numbers() {
		for _, n := range []int{0, 1, 2, 3, 4, 5, 7, 8, 9, 63, 64, 65, 100, 255, 256, 1000} {
			other := b.next()
			same(t, sum.Join(a, other, n), bitwiseJoin(a, other, n), "Join", a, other, n)
		}
	}
	for n := range 600 {
		same(t, sum.Join(0x8000000000000001, 3, n), bitwiseJoin(0x8000000000000001, 3, n), "Join", n)
	}
}

// n below 0 counts as 0, down to the least one.
func TestJoinBelow(t *testing.T) {
	for _, n := range []int{-1, -2, -3, -255, -256, -1 << 31, -1 << 32, -1<<32 + 1, math.MinInt + 1, math.MinInt} {
		for _, a := range numbers() {
			same(t, sum.Join(a, 9, n), a^9, "Join", a, n)
			same(t, sum.Join(a, 9, n), sum.Join(a, 9, 0), "Join against n of 0", a, n)
		}
	}
}

// greats are lengths up to the greatest one, of one bit and of all.
func greats() []int {
	list := []int{math.MaxInt, math.MaxInt - 1, math.MaxInt / 2, math.MaxInt/2 + 1, math.MaxInt / 3, 1e18, 4088, 65536*4096 + 5}
	for i := range 63 {
		list = append(list, 1<<i, 1<<i+1, 1<<i-1)
	}
	return list
}

// n may be as great as a number can be.
func TestJoinGreat(t *testing.T) {
	d := dice(5)
	for _, n := range greats() {
		a, b := d.next(), d.next()
		same(t, sum.Join(a, b, n), squaresJoin(a, b, n), "Join", a, b, n)
		same(t, sum.Join(1, 0, n), squaresJoin(1, 0, n), "Join(1, 0, n)", n)
	}
}

// P2.1: a text cut at every place.
func TestParts(t *testing.T) {
	for _, b := range texts() {
		if len(b) > 600 {
			b = b[:600]
		}
		whole := bitwise(b)
		for at := range len(b) + 1 {
			first, second := sum.Of(b[:at]), sum.Of(b[at:])
			same(t, sum.More(first, b[at:]), whole, "More at", len(b), at)
			same(t, sum.Join(first, second, len(b)-at), whole, "Join at", len(b), at)
		}
	}
}

// P2.1 of three parts and more, by both ways.
func TestManyParts(t *testing.T) {
	d := dice(6)
	for range 60 {
		var all []byte
		var more, join uint64
		for range d.next() % 9 {
			b := d.text(int(d.next() % 40))
			all = append(all, b...)
			more = sum.More(more, b)
			join = sum.Join(join, sum.Of(b), len(b))
		}
		same(t, more, sum.Of(all), "More of many", len(all))
		same(t, join, sum.Of(all), "Join of many", len(all))
	}
}

// P2.2: of no bytes behind, and of no text ahead.
func TestJoinedNothing(t *testing.T) {
	lengths := append(greats(), 0)
	for _, x := range numbers() {
		same(t, sum.Join(x, 0, 0), x, "Join(a, 0, 0)", x)
		for _, n := range lengths {
			same(t, sum.Join(0, x, n), x, "Join(0, b, n)", x, n)
		}
	}
}

// P2.2: three texts joined from either side, of great and small n and m.
func TestJoinedThree(t *testing.T) {
	d := dice(7)
	lengths := []int{0, 1, 2, 3, 5, 8, 255, 256, 4096, 1<<31 - 1, 1 << 31, 1 << 32, 1<<62 - 1, 1 << 62, math.MaxInt / 3, math.MaxInt - 1, math.MaxInt}
	for _, n := range lengths {
		for _, m := range lengths {
			if n > math.MaxInt-m {
				continue
			}
			a, b, c := d.next(), d.next(), d.next()
			left := sum.Join(sum.Join(a, b, n), c, m)
			same(t, left, sum.Join(a, sum.Join(b, c, m), n+m), "joined from the other side", n, m)
		}
	}
	for range 200 {
		n := int(d.next() >> 2)
		m := int(d.next()>>1) % (math.MaxInt - n)
		a, b, c := d.next(), d.next(), d.next()
		left := sum.Join(sum.Join(a, b, n), c, m)
		same(t, left, sum.Join(a, sum.Join(b, c, m), n+m), "joined from the other side", n, m)
	}
}

// turn puts 64 bits to the bits of a text from one on; those behind its end are left off.
func turn(b []byte, from int, bits uint64) []byte {
	c := slices.Clone(b)
	for i := range 64 {
		if at := from + i; bits>>i&1 == 1 && at < 8*len(c) {
			c[at/8] ^= 1 << (at % 8)
		}
	}
	return c
}

// patterns are bits that may be turned within 64, the first one always: it alone, two at every distance, those of the divisor, many.
func patterns() []uint64 {
	list := []uint64{1, ^uint64(0), 0xc96c5795d7870f43, 0x42f0e1eba9ea3693, 0x92d8af2baf0e1e85}
	for i := range 63 {
		list = append(list, 1|1<<(i+1), ^uint64(0)>>(i+1))
	}
	d := dice(8)
	for range 40 {
		list = append(list, d.next()|1)
	}
	return list
}

// P2.3: bits turned within 64 that stand together, at every place from one end of a text to the other.
func TestTurned(t *testing.T) {
	d := dice(9)
	for _, b := range [][]byte{{0}, []byte("123456789"), make([]byte, 24), d.text(40)} {
		whole := sum.Of(b)
		for _, bits := range patterns() {
			for from := range 8 * len(b) {
				c := turn(b, from, bits)
				if sum.Of(c) == whole {
					t.Errorf("%d bytes, %x turned from %d on: the sum is the same", len(b), bits, from)
				}
			}
		}
	}
}

// P2.3 at both ends of texts as long as blocks are.
func TestTurnedEnds(t *testing.T) {
	d := dice(10)
	for _, n := range []int{8, 9, 504, 1016, 2040, 4088} {
		b := d.text(n)
		whole := sum.Of(b)
		for _, bits := range patterns() {
			for _, from := range []int{0, 1, 7, 8, 8*n - 72, 8*n - 65, 8*n - 64, 8*n - 63, 8*n - 9, 8*n - 1} {
				if from < 0 {
					continue
				}
				if sum.Of(turn(b, from, bits)) == whole {
					t.Errorf("%d bytes, %x turned from %d on: the sum is the same", n, bits, from)
				}
			}
		}
	}
}

// P2.3: all texts of eight bytes have sums of their own; the bits of the sum hang on all 64, each by itself.
func TestTurnedAllOfEight(t *testing.T) {
	none := sum.Of(make([]byte, 8))
	var rows []uint64
	for i := range 64 {
		rows = append(rows, sum.Of(turn(make([]byte, 8), i, 1))^none)
	}
	for bit := range 64 {
		at := slices.IndexFunc(rows, func(r uint64) bool { return r>>bit&1 == 1 })
		if at < 0 {
			t.Fatalf("no row is left for bit %d: two texts have one sum", bit)
		}
		row := rows[at]
		rows = slices.Delete(rows, at, at+1)
		for i := range rows {
			if rows[i]>>bit&1 == 1 {
				rows[i] ^= row
			}
		}
	}
}

// put is two texts put to one another, byte by byte.
func put(a []byte, b []byte) []byte {
	c := slices.Clone(a)
	for i := range c {
		c[i] ^= b[i]
	}
	return c
}

// P2.4: three texts of one length.
func TestPlain(t *testing.T) {
	d := dice(11)
	for _, n := range []int{0, 1, 2, 7, 8, 9, 64, 65, 504, 4088} {
		for range 10 {
			a, b, c := d.text(n), d.text(n), d.text(n)
			same(t, sum.Of(put(put(a, b), c)), sum.Of(a)^sum.Of(b)^sum.Of(c), "three of", n)
		}
		a := d.text(n)
		same(t, sum.Of(put(put(a, a), a)), sum.Of(a), "one thrice, of", n)
	}
}

// P3: nothing is written into the bytes, nor into what stands behind them; only the bytes count.
func TestLeftAlone(t *testing.T) {
	d := dice(12)
	room := d.text(300)
	old := slices.Clone(room)
	for _, n := range []int{0, 1, 8, 256} {
		same(t, sum.Of(room[:n]), bitwise(old[:n]), "Of with room behind", n)
		same(t, sum.More(5, room[:n]), bitwiseMore(5, old[:n]), "More with room behind", n)
	}
	if !bytes.Equal(room, old) {
		t.Error("the bytes were written into")
	}
}

// P4: what a call answers hangs on its arguments alone, whoever else calls.
func TestManyHands(t *testing.T) {
	var hands sync.WaitGroup
	for h := range 8 {
		hands.Go(func() {
			d := dice(100 + h)
			for range 40 {
				b := d.text(int(d.next() % 100))
				same(t, sum.Of(b), bitwise(b), "Of by one of many hands", h)
				same(t, sum.Join(7, 9, len(b)), bitwiseJoin(7, 9, len(b)), "Join by one of many hands", h)
			}
		})
	}
	hands.Wait()
}

// A long text, and Join of as many noughts.
func TestLong(t *testing.T) {
	d := dice(13)
	b := d.text(1 << 20)
	same(t, sum.Of(b), bitwise(b), "Of a long text")
	half := len(b) / 2
	same(t, sum.Join(sum.Of(b[:half]), sum.Of(b[half:]), len(b)-half), bitwise(b), "Join of halves")
}
