package pages

import (
	"slices"
	"testing"

	"banyan/api"
	"banyan/dev"
	"banyan/page"
)

// joined is a text of numbers, and of bytes with their lengths.
func joined(parts ...any) []byte {
	var text []byte
	for _, p := range parts {
		switch p := p.(type) {
		case int:
			text = putNumber(text, uint64(p))
		case uint64:
			text = putNumber(text, p)
		case string:
			text = putBytes(text, []byte(p))
		case []byte:
			text = append(text, p...)
		}
	}
	return text
}

// found is what Open answers of a device whose block 1 has those books, as the generation 5.
func found(t *testing.T, blocks int, text []byte) (*Store, api.Found, api.Errno) {
	t.Helper()
	c := newCore(withDevice(t, blocks))
	for _, b := range chain(512, 5, text, c.used) {
		if err := c.dev.Write(b.number, b.bytes); err != api.OK {
			t.Fatal(err)
		}
	}
	return Open(c.dev)
}

// withDevice is a new device.
func withDevice(t *testing.T, blocks int) *dev.Dev {
	t.Helper()
	d, err := dev.New(512, blocks)
	if err != api.OK {
		t.Fatal(err)
	}
	return d
}

// parts of books that are right: the mark, what is of the state, of a snapshot, and of two pages, of which one only the snapshot has.
var (
	begins = []byte(mark)
	itself = joined(5, 3, "meta")
	aSnap  = joined("s", 2, 4, "old")
	page3  = joined(3, 3, 1, 0) // a Leaf, born in 4
	page4  = joined(1, 2, 3, 2) // a Branch, born in 2, died in 4
)

// S2: books are read as they were written.
func TestBooksRight(t *testing.T) {
	s, f, err := found(t, 64, joined(begins, itself, 1, aSnap, page3, page4))
	if err != api.OK || f != (api.Found{Gen: 5, Used: 2, Spoilt: 1}) {
		t.Fatalf("%v, %v", f, err)
	}
	if s.Root() != 3 || string(s.Meta()) != "meta" || !slices.Equal(s.Live(), []int{3}) || !slices.Equal(s.Snaps(), []string{"s"}) {
		t.Errorf("%d, %q, %d, %q", s.Root(), s.Meta(), s.Live(), s.Snaps())
	}
	old, err := s.At("s")
	if err != api.OK || old.Gen() != 2 || old.Root() != 4 || string(old.Meta()) != "old" || !slices.Equal(old.Live(), []int{4}) {
		t.Errorf("%d, %d, %q, %d, %v", old.Gen(), old.Root(), old.Meta(), old.Live(), err)
	}
	if l := s.lives[3]; l.Life != (api.Life{Page: 3, Born: 4, Died: yet}) || l.kind != api.Leaf {
		t.Errorf("%v", l)
	}
	if l := s.lives[4]; l.Life != (api.Life{Page: 4, Born: 2, Died: 4}) || l.kind != api.Branch {
		t.Errorf("%v", l)
	}
}

// S2: books whose parts are not as they must be, or do not agree, are none.
func TestBooksWrong(t *testing.T) {
	long := string(make([]byte, 73))
	nine := joined(9)
	for _, c := range "123456789" {
		nine = joined(nine, string(c), 2, 4, "")
	}
	full := joined(begins, joined(5, 0, ""), 0, 2, 3, 1, 0)
	for range 64 - 2 - 20 {
		full = joined(full, 1, 3, 1, 0)
	}
	for what, text := range map[string][]byte{
		"another mark":                  joined([]byte("Banyan"), itself, 1, aSnap, page3, page4),
		"another generation":            joined(begins, joined(4, 3, "meta"), 1, aSnap, page3, page4),
		"a later generation":            joined(begins, joined(6, 3, "meta"), 1, aSnap, page3, page4),
		"a root that is no page":        joined(begins, joined(5, 5, "meta"), 1, aSnap, page3, page4),
		"a root that is dead":           joined(begins, joined(5, 4, "meta"), 1, aSnap, page3, page4),
		"a root behind the last block":  joined(begins, joined(5, 64, "meta"), 1, aSnap, page3, page4),
		"a root that no page may be":    joined(begins, joined(5, 65536+3, "meta"), 1, aSnap, page3, page4),
		"a great root":                  joined(begins, joined(5, uint64(1<<63+3), "meta"), 1, aSnap, page3, page4),
		"a root of 1":                   joined(begins, joined(5, 1, "meta"), 1, aSnap, page3, page4),
		"a long meta":                   joined(begins, joined(5, 3, long), 1, aSnap, page3, page4),
		"nine snapshots":                joined(begins, itself, nine, page3, page4),
		"a snapshot without a name":     joined(begins, itself, 1, "", 2, 4, "", page3, page4),
		"a name that may not be":        joined(begins, itself, 1, "S", 2, 4, "", page3, page4),
		"a name that is too long":       joined(begins, itself, 1, "abcdefghijklmnopq", 2, 4, "", page3, page4),
		"two of one name":               joined(begins, itself, 2, aSnap, aSnap, page3, page4),
		"names that fall":               joined(begins, itself, 2, aSnap, "a", 2, 4, "", page3, page4),
		"a snapshot of now":             joined(begins, itself, 2, aSnap, "t", 5, 3, "", page3, page4),
		"a snapshot's root of no page":  joined(begins, itself, 1, "s", 2, 3, "", page3, page4),
		"a snapshot's root, not yet":    joined(begins, itself, 1, "s", 3, 3, "", page3, page4),
		"a snapshot's great root":       joined(begins, itself, 1, "s", 2, 64, "", page3, page4),
		"a snapshot's long meta":        joined(begins, itself, 1, "s", 2, 4, long, page3, page4),
		"a dead page that none needs":   joined(begins, itself, 0, page3, page4),
		"a dead page of later":          joined(begins, itself, 1, "s", 1, 0, "", page3, page4),
		"a page 0":                      joined(begins, joined(5, 0, ""), 0, 0, 3, 1, 0),
		"a page 1":                      joined(begins, joined(5, 0, ""), 0, 1, 3, 1, 0),
		"a page twice":                  joined(begins, joined(5, 0, ""), 0, page3, 0, 3, 1, 0),
		"a page behind the last block":  joined(begins, joined(5, 0, ""), 0, page3, 61, 3, 1, 0),
		"a page of a great number":      joined(begins, joined(5, 0, ""), 0, page3, uint64(1<<63), 3, 1, 0),
		"a page that falls":             joined(begins, joined(5, 0, ""), 0, 9, 3, 1, 0, uint64(1<<64-3), 3, 1, 0),
		"a kind 1":                      joined(begins, joined(5, 0, ""), 0, 3, 1, 1, 0),
		"a kind 0":                      joined(begins, joined(5, 0, ""), 0, 3, 0, 1, 0),
		"a kind 6":                      joined(begins, joined(5, 0, ""), 0, 3, 6, 1, 0),
		"a page of the generation 0":    joined(begins, joined(5, 0, ""), 0, 3, 3, 5, 0),
		"a page of long ago":            joined(begins, joined(5, 0, ""), 0, 3, 3, uint64(1<<64-1), 0),
		"a page that died at its birth": joined(begins, joined(5, 0, ""), 1, "s", 2, 0, "", 3, 3, 3, 4),
		"a page that died ahead of it":  joined(begins, joined(5, 0, ""), 1, "s", 2, 0, "", 3, 3, 2, 4),
		"too many pages":                full,
		"a page that is cut off":        joined(begins, itself, 1, aSnap, page3, page4[:3]),
		"bytes that are cut off":        joined(begins, joined(5, 0), 70, "x"),
		"a number that is cut off":      joined(begins, itself, 1, aSnap, page3, page4[:3], []byte{0x80}),
		"a number without an end":       joined(begins, itself, 1, aSnap, page3, page4[:3], slices.Repeat([]byte{0x80}, 300)),
		"a nought too much":             joined(begins, itself, 1, aSnap, page3, page4, 0),
		"a book of no count of snaps":   joined(begins, itself),
		"nothing but the mark":          joined(begins),
		"a beginning of the mark":       begins[:3],
	} {
		s, f, err := found(t, 64, text)
		if s != nil || f != (api.Found{}) || err != api.ErrPagesLost {
			t.Errorf("%s: %v, %v", what, f, err)
		}
	}
	fits := full[:len(full)-4]
	if _, f, err := found(t, 64, fits); err != api.OK || f.Used != 42 {
		t.Errorf("as many pages as may be: %v, %v", f, err)
	}
}

// S2: a chain of books that leads to itself, to one of the first two blocks, to none, or to a page that is in use, is none.
func TestBooksChain(t *testing.T) {
	text := joined(begins, joined(5, 0, ""), 0, 2, 3, 1, 0)
	for _, next := range []int{1, 2, 3, 64, 65536, 1<<32 - 1} {
		d := withDevice(t, 64)
		for n, payload := range map[int][]byte{1: append(link(3), text...), 3: link(next)} {
			b, err := page.Seal(512, api.Head{Kind: api.Super, Number: n, Gen: 5}, payload)
			if err != api.OK {
				t.Fatal(err)
			}
			d.Write(n, b)
		}
		if _, _, err := Open(d); err != api.ErrPagesLost {
			t.Errorf("a chain that leads to %d: %v", next, err)
		}
	}
	d := withDevice(t, 64)
	for n, payload := range map[int][]byte{1: append(link(2), text...), 2: link(0)} {
		b, _ := page.Seal(512, api.Head{Kind: api.Super, Number: n, Gen: 5}, payload)
		d.Write(n, b)
	}
	if _, _, err := Open(d); err != api.ErrPagesLost {
		t.Errorf("a page in a block of the books: %v", err)
	}
}

// S2: no state is of the generation 0, even if a block says so.
func TestBooksOfNoGeneration(t *testing.T) {
	d := withDevice(t, 64)
	b, _ := page.Seal(512, api.Head{Kind: api.Super}, append(link(0), joined(begins, joined(0, 0, ""), 0)...))
	d.Write(0, b)
	if _, _, err := Open(d); err != api.ErrPagesLost {
		t.Errorf("%v", err)
	}
}

// S9: of all books that may be, by the longest numbers, two have room in the Reserve.
func TestBooksFit(t *testing.T) {
	for _, size := range []int{512, 1024, 2048, 4096} {
		meta := make([]byte, maxMeta(size))
		for blocks := api.MinBlocks; blocks <= api.MaxBlocks; blocks += 1 + blocks/50 {
			reserve := 12 + blocks/8
			b := book{state: state{gen: yet - 1, root: blocks - 1, meta: meta}}
			for i := range api.MaxSnaps {
				b.snaps = append(b.snaps, snapshot{"abcdefghijklmno" + string(rune('a'+i)), b.state})
			}
			lives := make([]*life, blocks)
			for n := range blocks - firstPage - reserve {
				lives[blocks-1-n] = &life{Life: api.Life{Page: blocks - 1 - n, Born: 1, Died: 2}, kind: api.Other}
			}
			room := page.Room(size) - linkBytes
			if links := (len(b.encode(lives)) - 1) / room; 2*links > reserve {
				t.Fatalf("%d blocks of %d bytes: books of %d, of %d", blocks, size, links, reserve)
			}
		}
	}
}
