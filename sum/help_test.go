package sum_test

import (
	"slices"
	"testing"
)

// bitwise is the sum as the chapter's words make it, bit by bit.
func bitwise(b []byte) uint64 { return bitwiseMore(0, b) }

// bitwiseMore is likewise what More must answer.
func bitwiseMore(sum uint64, b []byte) uint64 {
	state := ^sum
	for _, c := range b {
		state ^= uint64(c)
		for range 8 {
			out := state & 1
			state >>= 1
			if out == 1 {
				state ^= 0xc96c5795d7870f42
			}
		}
	}
	return ^state
}

// bitwiseJoin is what Join must answer, byte by byte: for small n alone.
func bitwiseJoin(a uint64, b uint64, n int) uint64 {
	noughts := make([]byte, max(n, 0))
	return bitwiseMore(a, noughts) ^ bitwiseMore(0, noughts) ^ b
}

// deeds is what becomes of each bit of a number, as a square of 64 by 64 bits.
type deeds [64]uint64

// do puts together what becomes of the bits that are set.
func (d *deeds) do(x uint64) uint64 {
	var y uint64
	for i := range 64 {
		if x>>i&1 == 1 {
			y ^= d[i]
		}
	}
	return y
}

// squaresJoin is what Join must answer for every n, by squares of bits: another way than the program's.
func squaresJoin(a uint64, b uint64, n int) uint64 {
	var d deeds
	for i := range 64 {
		d[i] = bitwiseMore(1<<i, []byte{0}) ^ bitwiseMore(0, []byte{0})
	}
	for n = max(n, 0); n > 0; n >>= 1 {
		if n&1 == 1 {
			a = d.do(a)
		}
		var twice deeds
		for i := range 64 {
			twice[i] = d.do(d[i])
		}
		d = twice
	}
	return a ^ b
}

// dice are numbers that look thrown and are the same in every run.
type dice uint64

func (d *dice) next() uint64 {
	*d += 0x9e3779b97f4a7c15
	x := uint64(*d)
	x = (x ^ x>>30) * 0xbf58476d1ce4e5b9
	x = (x ^ x>>27) * 0x94d049bb133111eb
	return x ^ x>>31
}

func (d *dice) text(n int) []byte {
	b := make([]byte, n)
	for i := range b {
		b[i] = byte(d.next())
	}
	return b
}

// same holds a sum against the one that is asked.
func same(t *testing.T, got uint64, asked uint64, what string, of ...any) {
	t.Helper()
	if got != asked {
		t.Errorf("%s %v: %016x, want %016x", what, of, got, asked)
	}
}

// texts are some of many lengths: none, one byte, all noughts, all bits set, thrown ones.
func texts() [][]byte {
	list := [][]byte{nil, {}, {0}, {1}, {0x80}, {0xff}, []byte("a"), []byte("123456789")}
	d := dice(1)
	for _, n := range []int{2, 7, 8, 9, 63, 64, 65, 255, 256, 257, 504, 4088} {
		ones := slices.Repeat([]byte{0xff}, n)
		list = append(list, make([]byte, n), ones, d.text(n))
	}
	return list
}

// numbers are sums of every kind: none, each bit alone, all bits, thrown ones.
func numbers() []uint64 {
	list := []uint64{0, 3, 5, 7, ^uint64(0), ^uint64(0) - 1, 0xc96c5795d7870f42, 0x8000000000000001}
	for i := range 64 {
		list = append(list, 1<<i)
	}
	d := dice(2)
	for range 8 {
		list = append(list, d.next())
	}
	return list
}
