package page_test

import (
	"bytes"
	"encoding/binary"
	"hash/crc64"
	"math"
	"testing"

	"banyan/api"
	"banyan/page"
)

// sizes are all that a block may have.
func sizes() []int { return []int{512, 1024, 2048, 4096} }

// wrongSizes are some that it may not have: beside the four, between, below 0, and such as are one of the four in their lowest bits.
func wrongSizes() []int {
	list := []int{math.MinInt, math.MinInt + 512, -4096, -512, -1, 0, 1, 24, 31, 32, 33, 256, 480, 500, 1536, 3072, 8192, 65536, 1<<32 + 512, 1<<62 + 4096, math.MaxInt}
	for _, size := range sizes() {
		list = append(list, size-1, size+1)
	}
	return list
}

// heads are some that a page may have: every kind, the least and the greatest number and generation, ones of many bytes.
func heads() []api.Head {
	var list []api.Head
	numbers := []int{0, 1, 7, 255, 256, 0x1234, 65534, 65535}
	gens := []uint64{0, 1, 2, 255, 256, 1 << 32, 0x0102030405060708, 1 << 63, math.MaxUint64}
	for kind := api.Super; kind <= api.Other; kind++ {
		for i, number := range numbers {
			for j, gen := range gens {
				if (i+j+int(kind))%3 == 0 {
					list = append(list, api.Head{Kind: kind, Number: number, Gen: gen})
				}
			}
		}
	}
	return list
}

// wrongHeads are some that no page may have, of its kind, its number, and both.
func wrongHeads() []api.Head {
	var list []api.Head
	for _, kind := range []api.PageKind{math.MinInt, -1, 0, 6, 7, 255, 256, 257, 1<<32 + 3, math.MaxInt} {
		list = append(list, api.Head{Kind: kind, Number: 7, Gen: 2}, api.Head{Kind: kind, Number: -1})
	}
	for _, number := range []int{math.MinInt, -65536, -1, 65536, 65537, 1 << 31, 1 << 32, 1<<32 + 7, math.MaxInt} {
		list = append(list, api.Head{Kind: api.Leaf, Number: number, Gen: 2})
	}
	return list
}

// modelSeal is a page as the chapter's table tells it, by the library's sum.
func modelSeal(size int, h api.Head, payload []byte) []byte {
	b := []byte{0x42, 0x59, byte(h.Kind), 0}
	b = binary.BigEndian.AppendUint32(b, uint32(h.Number))
	b = binary.BigEndian.AppendUint64(b, h.Gen)
	b = binary.BigEndian.AppendUint32(b, uint32(len(payload)))
	b = append(b, 0, 0, 0, 0)
	b = append(b, payload...)
	return right(append(b, make([]byte, size-len(b))...))
}

// right is b with the sum of its bytes in the last eight.
func right(b []byte) []byte {
	c := bytes.Clone(b)
	ahead := c[:len(c)-8]
	return binary.LittleEndian.AppendUint64(ahead, crc64.Checksum(ahead, crc64.MakeTable(crc64.ECMA)))
}

// modelOpen is what Open must answer, in the order of the chapter's list.
func modelOpen(b []byte, number int) (api.Head, []byte, api.Errno) {
	none := api.Head{}
	size := len(b)
	if size != 512 && size != 1024 && size != 2048 && size != 4096 {
		return none, nil, api.ErrPageHead
	}
	length := int64(binary.BigEndian.Uint32(b[16:]))
	if string(b[:2]) != "BY" || b[2] == 0 || b[2] > 5 || b[3] != 0 || string(b[20:24]) != "\x00\x00\x00\x00" ||
		b[4] != 0 || b[5] != 0 || length > int64(size)-32 {
		return none, nil, api.ErrPageHead
	}
	if len(bytes.Trim(b[24+length:size-8], "\x00")) != 0 {
		return none, nil, api.ErrPageHead
	}
	if !bytes.Equal(right(b), b) {
		return none, nil, api.ErrPageSum
	}
	h := api.Head{Kind: api.PageKind(b[2]), Number: int(b[6])<<8 + int(b[7]), Gen: binary.BigEndian.Uint64(b[8:])}
	if h.Number != number {
		return none, nil, api.ErrPageNumber
	}
	return h, bytes.Clone(b[24 : 24+length]), api.OK
}

// seal makes a page that must be taken.
func seal(t *testing.T, size int, h api.Head, payload []byte) []byte {
	t.Helper()
	b, err := page.Seal(size, h, payload)
	if err != api.OK || len(b) != size {
		t.Fatalf("Seal(%d, %v, %d bytes): %d bytes, %v", size, h, len(payload), len(b), err)
	}
	return b
}

// sealRefuses tells that Seal answers that error, and nothing beside it.
func sealRefuses(t *testing.T, size int, h api.Head, payload []byte, asked api.Errno) {
	t.Helper()
	if b, err := page.Seal(size, h, payload); err != asked || len(b) != 0 {
		t.Errorf("Seal(%d, %v, %d bytes): %d bytes, %v, want none, %v", size, h, len(payload), len(b), err, asked)
	}
}

// opens holds what Open tells against a head and a payload.
func opens(t *testing.T, b []byte, number int, head api.Head, payload []byte) {
	t.Helper()
	h, p, err := page.Open(b, number)
	if err != api.OK || h != head || !bytes.Equal(p, payload) {
		t.Errorf("Open of %d bytes, %d: %v, %d bytes, %v, want %v, %d bytes", len(b), number, h, len(p), err, head, len(payload))
	}
}

// refuses tells that Open answers that error, and nothing beside it.
func refuses(t *testing.T, b []byte, number int, asked api.Errno, what string, of ...any) {
	t.Helper()
	if h, p, err := page.Open(b, number); err != asked || h != (api.Head{}) || len(p) != 0 {
		t.Errorf("Open of %d bytes, %d, %s %v: %v, %d bytes, %v, want nothing, %v", len(b), number, what, of, h, len(p), err, asked)
	}
}

// with is b with other bytes from a place on.
func with(b []byte, at int, by ...byte) []byte {
	c := bytes.Clone(b)
	copy(c[at:], by)
	return c
}

// dice are numbers that look thrown and are the same in every run.
type dice uint64

func (d *dice) next() uint64 {
	*d += 0x9e3779b97f4a7c15
	x := uint64(*d)
	x = (x ^ x>>30) * 0xbf58476d1ce4e5b9
	x = (x ^ x>>27) * 0x94d049bb133111eb
	return x ^ x>>31
}

// below is one of the numbers from 0 on up to n, that one not.
func (d *dice) below(n int) int { return int(d.next() % uint64(n)) }

func (d *dice) text(n int) []byte {
	b := make([]byte, n)
	for i := range b {
		b[i] = byte(d.next())
	}
	return b
}

// head is one that a page may have.
func (d *dice) head() api.Head {
	return api.Head{Kind: api.PageKind(1 + d.below(5)), Number: d.below(api.MaxBlocks), Gen: d.next()}
}
