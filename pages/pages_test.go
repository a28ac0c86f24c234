package pages_test

import (
	"errors"
	"fmt"
	"slices"
	"strings"
	"testing"

	"banyan/api"
	"banyan/dev"
	"banyan/page"
	"banyan/pages"
)

// The chapter's examples, in their order.
func TestExamples(t *testing.T) {
	x := begun(t, 512, 32)
	if x.s.Gen() != 1 || x.s.Root() != 0 || len(x.s.Live()) != 0 || x.s.Left() < 14 {
		t.Error("Format")
	}
	p, _ := x.make(x.s, api.Leaf, "a")
	x.set(x.s, p, "b")
	x.setRoot(p)
	x.commit(x.s)
	x.holds("1")
	if x.s.Gen() != 2 {
		t.Errorf("Gen %d", x.s.Gen())
	}

	q, _ := x.set(x.s, p, "c")
	if q == p || x.s.Root() != q || !slices.Equal(x.s.Live(), []int{q}) {
		t.Errorf("Set: %d, Root %d, Live %d", q, x.s.Root(), x.s.Live())
	}
	_, _, err := x.s.Get(p)
	want(t, "Get", err, api.ErrPagesNone)
	x.holds("2")
	x.abort(x.s)
	x.holds("2, taken back")

	x.snap(x.s, "s")
	q, _ = x.set(x.s, p, "c")
	x.commit(x.s)
	x.holds("3")
	old, err := x.s.At("s")
	want(t, "At", err, api.OK)
	_, err = old.New(api.Leaf, nil)
	want(t, "New of a snapshot", err, api.ErrPagesSnap)
	x.unsnap(x.s, "s")
	x.commit(x.s)
	x.holds("3, let go")
	if x.inUse()[p] || !x.inUse()[q] {
		t.Errorf("in use: %v", x.inUse())
	}

	want(t, "Snap(S)", x.s.Snap("S"), api.ErrPagesName)
	none := 3
	for none == q {
		none++
	}
	want(t, "SetRoot", x.s.SetRoot(none), api.ErrPagesNone)
	_, err = x.s.New(api.Super, nil)
	want(t, "New(Super)", err, api.ErrArg)
	want(t, "SetMeta of 73 bytes", x.s.SetMeta(make([]byte, 73)), api.ErrPagesMeta)
	x.holds("4")
}

// The last of the chapter's examples: what Open finds.
func TestExampleOpen(t *testing.T) {
	d := device(t, 512, 32)
	s, found, err := pages.Open(d)
	if s != nil || found != (api.Found{}) || err != api.ErrPagesLost {
		t.Errorf("Open of a new device: %v, %v", found, err)
	}
	s, err = pages.Format(d)
	want(t, "Format", err, api.OK)
	for _, asked := range []api.Found{{Gen: 1, Spoilt: 1}, {Gen: 2}, {Gen: 3}} {
		_, found, err := pages.Open(d)
		if found != asked || err != api.OK {
			t.Errorf("Open: %v, %v, want %v", found, err, asked)
		}
		want(t, "Commit", s.Commit(), api.OK)
	}
}

// S1: of every size and many counts of blocks, and at their limits: nothing is there, and as much room as there must be.
func TestFormat(t *testing.T) {
	for _, size := range []int{512, 1024, 2048, 4096} {
		for _, blocks := range []int{16, 17, 23, 24, 31, 32, 100, 1000} {
			x := begun(t, size, blocks)
			x.holds("Format")
			if x.s.Size() != size {
				t.Errorf("Size %d, want %d", x.s.Size(), size)
			}
			want(t, "Snap", x.snap(x.s, "first"), api.OK)
			x.setMeta(x.s, strings.Repeat("m", 40+size/16))
			x.commit(x.s)
			x.holds("a Commit without pages")
		}
	}
	x := begun(t, 512, api.MaxBlocks)
	if left := x.s.Left(); left < 65536-2-12-8192 {
		t.Errorf("Left %d", left)
	}
}

// S1: whatever the device was, nothing of it is found; what does not last yet counts for nothing.
func TestFormatAnew(t *testing.T) {
	for commits := range 5 {
		x := begun(t, 512, 64)
		for i := range commits {
			x.make(x.s, api.Leaf, fmt.Sprint(i))
			x.setMeta(x.s, "old")
			x.snap(x.s, fmt.Sprint("s", i))
			x.commit(x.s)
		}
		x.d.Write(0, make([]byte, 512))
		s, err := pages.Format(x.d)
		want(t, "Format", err, api.OK)
		x.s, x.last = s, nothing(1)
		x.now = x.last.copied()
		x.holds("Format anew")
		x.d.Restart([]int{0, 1, 2, 0, 1, 2})
		x.reopen()
		x.holds("opened anew")
	}
}

// S1, S2: no device.
func TestNoDevice(t *testing.T) {
	if s, err := pages.Format(nil); s != nil || err != api.ErrArg {
		t.Errorf("Format(nil): %v", err)
	}
	if s, found, err := pages.Open(nil); s != nil || found != (api.Found{}) || err != api.ErrArg {
		t.Errorf("Open(nil): %v, %v", found, err)
	}
}

// S1: the first two blocks are made noughts, that lasts, and only then anything is written.
func TestFormatRefused(t *testing.T) {
	for _, how := range []api.How{api.Stop, api.Fail} {
		for _, done := range []bool{false, true} {
			for when := 1; ; when++ {
				x := begun(t, 512, 64)
				x.make(x.s, api.Leaf, "old")
				x.commit(x.s)
				x.d.Arm(when, how, done)
				s, err := pages.Format(x.d)
				if err == api.OK {
					if when < 6 {
						t.Errorf("Format has made %d changes", when-1)
					}
					break
				}
				asked := api.ErrDevOff
				if how == api.Fail {
					asked = api.ErrDevFail
				}
				if s != nil || err != asked {
					t.Fatalf("Format: %v, want %v", err, asked)
				}
			}
		}
	}
}

// S2: Open makes a Barrier ahead of all else, writes nothing, and answers the device's error.
func TestOpenBarrier(t *testing.T) {
	for _, done := range []bool{false, true} {
		for how, asked := range map[api.How]api.Errno{api.Stop: api.ErrDevOff, api.Fail: api.ErrDevFail} {
			d := device(t, 512, 32)
			d.Arm(1, how, done)
			reads, _ := d.Count()
			s, found, err := pages.Open(d)
			if after, _ := d.Count(); after != reads || s != nil || found != (api.Found{}) || err != asked {
				t.Errorf("Open: %v, %v, want %v", found, err, asked)
			}
		}
	}
	x := begun(t, 512, 32)
	x.make(x.s, api.Leaf, "a")
	x.commit(x.s)
	// Another hand's write waits yet: it lasts behind Open.
	x.d.Write(31, slices.Repeat([]byte{7}, 512))
	_, writes := x.d.Count()
	x.reopen()
	if _, after := x.d.Count(); after != writes || len(x.d.Pending()) > 0 {
		t.Errorf("Open writes %d blocks, and %v wait", after-writes, x.d.Pending())
	}
	x.d.Restart(nil)
	if b, _ := x.d.Read(31); b[0] != 7 {
		t.Error("what waited when it was opened is lost")
	}
}

// S2: what is no Super of its own number, and of a generation of its rest, is not right.
func TestOpenNotRight(t *testing.T) {
	seal := func(size int, h api.Head, payload []byte) []byte {
		b, err := page.Seal(size, h, payload)
		want(t, "Seal", err, api.OK)
		return b
	}
	for spoil, h := range map[string]api.Head{
		"another kind":       {Kind: api.Other, Number: 1, Gen: 5},
		"another number":     {Kind: api.Super, Number: 0, Gen: 5},
		"another rest":       {Kind: api.Super, Number: 1, Gen: 6},
		"another's number 3": {Kind: api.Super, Number: 3, Gen: 7},
	} {
		x := begun(t, 512, 32)
		x.commit(x.s) // generation 2, in the block 0
		b, _ := x.d.Read(0)
		_, payload, _ := page.Open(b, 0)
		x.d.Write(1, seal(512, h, payload))
		s, found, err := pages.Open(x.d)
		if err != api.OK || found != (api.Found{Gen: 2, Spoilt: 1}) {
			t.Fatalf("%s: %v, %v", spoil, found, err)
		}
		tells(t, spoil, s, x.now, 0)
		x.d.Write(0, make([]byte, 512))
		if s, found, err := pages.Open(x.d); s != nil || found != (api.Found{}) || err != api.ErrPagesLost {
			t.Fatalf("%s, and the other one is noughts: %v, %v", spoil, found, err)
		}
	}
}

// S2: a block that is garbled is not right; with both garbled all is lost.
func TestOpenGarbled(t *testing.T) {
	for older := range 2 {
		x := begun(t, 512, 64)
		x.make(x.s, api.Leaf, "a")
		x.commit(x.s)
		x.commit(x.s) // generation 3 in the block 1
		x.d.Write(0, make([]byte, 512))
		x.d.Write(1, make([]byte, 512))
		if older == 0 {
			x.d.Restart([]int{2, 0})
			s, found, err := pages.Open(x.d)
			if err != api.OK || found != (api.Found{Gen: 3, Used: 1, Spoilt: 1}) {
				t.Fatalf("%v, %v", found, err)
			}
			tellsAll(t, "the block 0 is garbled", s, x.last)
			continue
		}
		x.d.Restart([]int{2, 2})
		if s, found, err := pages.Open(x.d); s != nil || found != (api.Found{}) || err != api.ErrPagesLost {
			t.Fatalf("both garbled: %v, %v", found, err)
		}
	}
}

// S2: books that are none: whatever stands in the payload of the Super of the greater generation, Open answers, and a new one is made over it.
func TestOpenNoBooks(t *testing.T) {
	payloads := [][]byte{nil, {0}, {0, 0, 0}, []byte("hello"), make([]byte, 4), make([]byte, 8), make([]byte, 11), make([]byte, 480), slices.Repeat([]byte{255}, 480)}
	for _, payload := range payloads {
		for _, gen := range []uint64{0, 3, 4, 5, 1 << 40, 1<<64 - 1, 1<<64 - 2} {
			x := begun(t, 512, 32)
			x.commit(x.s)
			x.commit(x.s)
			b, err := page.Seal(512, api.Head{Kind: api.Super, Number: int(gen % 2), Gen: gen}, payload)
			want(t, "Seal", err, api.OK)
			x.d.Write(int(gen%2), b)
			s, found, err := pages.Open(x.d)
			if gen == 0 { // the greater one is the other one's
				if err != api.OK || found.Gen != 3 {
					t.Errorf("of the generation 0: %v, %v", found, err)
				}
				continue
			}
			if s != nil || found != (api.Found{}) || err != api.ErrPagesLost {
				t.Errorf("%q of the generation %d: %v, %v", payload, gen, found, err)
			}
			_, err = pages.Format(x.d)
			want(t, "Format", err, api.OK)
		}
	}
	// A Super of the generation 0 in the block 0 alone is right, but no state is of that.
	d := device(t, 512, 32)
	b, _ := page.Seal(512, api.Head{Kind: api.Super}, make([]byte, 9))
	d.Write(0, b)
	if _, _, err := pages.Open(d); err != api.ErrPagesLost {
		t.Errorf("of the generation 0: %v", err)
	}
}

// rich is a store with many pages, all kinds, dead ones, long metas and eight snapshots, on a device of 512 blocks.
func rich(t *testing.T, size int) *trial {
	t.Helper()
	x := begun(t, size, 512)
	r := dice(size)
	for i := range 8 {
		for range 16 {
			x.make(x.s, api.PageKind(r.roll(2, 5)), r.text(20))
		}
		for range 6 {
			x.set(x.s, one(&r, x.now.live()), r.text(20))
			x.free(x.s, one(&r, x.now.live()))
		}
		x.setRoot(one(&r, x.now.live()))
		x.setMeta(x.s, strings.Repeat(fmt.Sprint(i), 40+size/16))
		x.commit(x.s)
		want(t, "Snap", x.snap(x.s, fmt.Sprint("sixteen-letters", i)), api.OK)
	}
	x.free(x.s, x.now.live()[0])
	x.commit(x.s)
	return x
}

// S2: bytes of the books that are not as they were written, in pages that are well sealed: Open answers, OK or ErrPagesLost.
func TestOpenSpoiltBooks(t *testing.T) {
	for _, size := range []int{512, 4096} {
		x := rich(t, size)
		x.holds("rich")
		r := dice(3)
		blocks := bookBlocks(x.d, x.last.gen)
		lost := 0
		for round := range 3000 {
			d := x.d.Copy()
			n := int(x.last.gen % 2)
			if round%2 == 0 {
				n = one(&r, blocks)
			}
			b, _ := d.Read(n)
			h, payload, err := page.Open(b, n)
			want(t, "page.Open", err, api.OK)
			switch r.roll(0, 3) {
			case 0:
				payload = payload[:r.roll(0, len(payload))]
			case 1:
				payload = append(payload, make([]byte, r.roll(0, size-32-len(payload)))...)
			default:
				payload[r.roll(0, len(payload)-1)] ^= byte(r.roll(1, 255))
			}
			b, err = page.Seal(size, h, payload)
			want(t, "Seal", err, api.OK)
			d.Write(n, b)
			s, found, err := pages.Open(d)
			switch {
			case err == api.OK:
				usable(t, s)
			case err == api.ErrPagesLost && s == nil && found == (api.Found{}):
				lost++
			default:
				t.Fatalf("Open: %v, %v", found, err)
			}
		}
		if lost < 1000 {
			t.Errorf("only %d of 3000 were noticed", lost)
		}
	}
}

// bookBlocks are the blocks of the Super pages of a generation.
func bookBlocks(d *dev.Dev, gen uint64) []int {
	var list []int
	for n := range d.Blocks() {
		if b, err := d.Read(n); err == api.OK {
			if h, _, err := page.Open(b, n); err == api.OK && h.Kind == api.Super && h.Gen == gen {
				list = append(list, n)
			}
		}
	}
	return list
}

// few are the first ones of a list.
func few(list []int) []int { return list[:min(len(list), 5)] }

// usable: calls of a store answer.
func usable(t *testing.T, s *pages.Store) {
	t.Helper()
	for _, name := range append(s.Snaps(), "") {
		old, err := s.At(name)
		want(t, "At", err, api.OK)
		for _, n := range few(old.Live()) {
			old.Get(n)
		}
	}
	for _, n := range few(s.Live()) {
		s.Set(n, nil)
	}
	want(t, "Commit", s.Commit(), api.OK)
}

// S2: books of which a block is noughts, garbled, another page or of another generation are lost.
func TestOpenLostBooks(t *testing.T) {
	x := rich(t, 512)
	blocks := bookBlocks(x.d, x.last.gen)
	if len(blocks) < 2 {
		t.Skip("the books have no other blocks")
	}
	for _, n := range blocks {
		if n < 2 {
			continue
		}
		b, _ := x.d.Read(n)
		h, payload, _ := page.Open(b, n)
		for what, h := range map[string]api.Head{
			"kind":       {Kind: api.Other, Number: n, Gen: h.Gen},
			"number":     {Kind: api.Super, Number: n + 1, Gen: h.Gen},
			"generation": {Kind: api.Super, Number: n, Gen: h.Gen - 1},
		} {
			d := x.d.Copy()
			b, _ := page.Seal(512, h, payload)
			d.Write(n, b)
			_, _, err := pages.Open(d)
			want(t, "Open of books of another "+what, err, api.ErrPagesLost)
		}
		d := x.d.Copy()
		d.Write(n, make([]byte, 512))
		_, _, err := pages.Open(d)
		want(t, "Open of books that are noughts", err, api.ErrPagesLost)
		d = x.d.Copy()
		d.Write(n, make([]byte, 512))
		d.Restart([]int{2})
		_, _, err = pages.Open(d)
		want(t, "Open of books that are garbled", err, api.ErrPagesLost)
	}
}

// S4: what Get answers of blocks that are not as they must be, in the order that the chapter names.
func TestGetErrors(t *testing.T) {
	x := begun(t, 512, 64)
	n, _ := x.make(x.s, api.Leaf, "a")
	x.commit(x.s)
	get := func(what string, asked api.Errno) {
		t.Helper()
		kind, payload, err := x.s.Get(n)
		if err != asked || kind != 0 || len(payload) > 0 {
			t.Errorf("Get of %s: %v, %q, %v, want %v", what, kind, payload, err, asked)
		}
	}
	for what, c := range map[string]struct {
		h     api.Head
		asked api.Errno
	}{
		"another kind":       {api.Head{Kind: api.Node, Number: n, Gen: 2}, api.ErrPageNumber},
		"another generation": {api.Head{Kind: api.Leaf, Number: n, Gen: 1}, api.ErrPageNumber},
		"another number":     {api.Head{Kind: api.Leaf, Number: n + 1, Gen: 2}, api.ErrPageNumber},
	} {
		b, err := page.Seal(512, c.h, []byte("a"))
		want(t, "Seal", err, api.OK)
		x.d.Write(n, b)
		get(what, c.asked)
	}
	x.d.Write(n, make([]byte, 512))
	get("noughts", api.ErrPageHead)
	b, _ := page.Seal(512, api.Head{Kind: api.Leaf, Number: n, Gen: 2}, []byte("a"))
	b[24] ^= 1
	x.d.Write(n, b)
	get("turned bits", api.ErrPageSum)
	x.d.Barrier()
	x.d.Write(n, b)
	x.d.Restart([]int{2})
	x.reopen()
	get("a garbled block", api.ErrDevBad)
	x.d.Arm(1, api.Stop, false)
	x.d.Barrier()
	get("a device that is off", api.ErrDevOff)
	if _, _, err := x.s.Get(n + 1); err != api.ErrPagesNone {
		t.Errorf("Get of no page of a device that is off: %v", err)
	}
	// What Get could not read makes nothing sick.
	x.d.Restart(nil)
	want(t, "Free", x.s.Free(n), api.OK)
}

// S4: numbers that no page has.
func TestGetNone(t *testing.T) {
	x := begun(t, 512, 64)
	x.make(x.s, api.Leaf, "a")
	x.commit(x.s)
	for _, n := range []int{-1 << 63, -65536, -1, 0, 1, 63, 64, 65, 65535, 65536, 1 << 31, 1<<63 - 1} {
		if slices.Contains(x.s.Live(), n) {
			continue
		}
		_, _, err := x.s.Get(n)
		want(t, "Get", err, api.ErrPagesNone)
		x.set(x.s, n, "b")
		x.free(x.s, n)
		if n != 0 {
			x.setRoot(n)
			x.see(x.s, n)
		}
	}
	x.holds("nothing was changed")
}

// S5, S6: kinds and lengths at their limits; the first error that is named is answered.
func TestNewAndSetArguments(t *testing.T) {
	for _, size := range []int{512, 1024, 2048, 4096} {
		x := begun(t, size, 64)
		room := size - 32
		for kind := api.PageKind(-1); kind <= 7; kind++ {
			for _, long := range []int{0, 1, room - 1, room, room + 1, size} {
				n, err := x.make(x.s, kind, strings.Repeat("x", long))
				if err == api.OK && kind != api.Leaf {
					x.free(x.s, n)
				}
			}
		}
		x.holds("New")
		for round := range 2 {
			for _, n := range x.now.live() {
				x.set(x.s, n, strings.Repeat("y", room+1))
				x.set(x.s, n, strings.Repeat("y", room-round))
			}
			x.holds("Set")
			x.commit(x.s)
		}
		x.holds("committed")
	}
	for _, kind := range []api.PageKind{-1 << 63, 1<<63 - 1, 256 + 3, 1<<32 + 3} {
		x := begun(t, 512, 64)
		x.make(x.s, kind, strings.Repeat("x", 600))
	}
}

// S5 to S7: the errors of a full store, and behind them the ones that stand ahead.
func TestFull(t *testing.T) {
	for _, blocks := range []int{16, 17, 24, 32, 64, 100} {
		x := begun(t, 512, blocks)
		made := 0
		for x.s.Left() > 0 {
			x.make(x.s, api.Leaf, fmt.Sprint(made))
			made++
		}
		if made < blocks-2-reserve(blocks) || made > blocks-2 {
			t.Fatalf("%d pages on %d blocks", made, blocks)
		}
		x.make(x.s, api.Leaf, "more")
		x.make(x.s, api.Super, "more")
		x.make(x.s, api.Leaf, strings.Repeat("x", 481))
		for _, n := range x.now.live() {
			x.set(x.s, n, fmt.Sprint("new", n))
		}
		x.holds("full")
		x.commit(x.s)
		x.holds("full, committed")
		for _, n := range x.now.live() {
			x.set(x.s, n, "refused")
			x.set(x.s, n, strings.Repeat("x", 481))
		}
		x.set(x.s, -1, "refused")
		x.holds("full: Set refused")
		// What was committed gives no room, until that is not.
		for _, n := range x.now.live() {
			x.free(x.s, n)
			x.make(x.s, api.Leaf, "refused")
		}
		x.holds("all freed")
		x.commit(x.s)
		x.holds("all freed, committed")
		if x.s.Left() < blocks-2-reserve(blocks) {
			t.Fatalf("Left %d", x.s.Left())
		}
	}
}

// S11, P11.3: what was made and goes ahead of a Commit gives its room back at once, as often as one likes.
func TestRoomAtOnce(t *testing.T) {
	x := begun(t, 512, 64)
	left := x.s.Left()
	for range 500 {
		n, _ := x.make(x.s, api.Leaf, "a")
		x.free(x.s, n)
		if x.s.Left() < left {
			t.Fatalf("Left %d, was %d", x.s.Left(), left)
		}
	}
	for x.s.Left() > 0 {
		x.make(x.s, api.Leaf, "a")
	}
	for range 200 {
		x.free(x.s, x.now.live()[7])
		if _, err := x.make(x.s, api.Leaf, "b"); err != api.OK {
			t.Fatalf("no room for a page that went: %v", err)
		}
	}
	x.holds("as many")
	x.abort(x.s)
	x.holds("taken back")
	if x.s.Left() < left {
		t.Errorf("Left %d, was %d", x.s.Left(), left)
	}
}

// P11.3: a store whose pages are changed for ever never runs full.
func TestRoomForEver(t *testing.T) {
	x := begun(t, 512, 40)
	for x.s.Left() > 4 {
		x.make(x.s, api.Leaf, "a")
	}
	x.commit(x.s)
	left := x.s.Left()
	r := dice(5)
	for round := range 300 {
		for range 4 {
			if _, err := x.set(x.s, one(&r, x.now.live()), fmt.Sprint(round)); err != api.OK {
				t.Fatalf("Set in the round %d: %v", round, err)
			}
		}
		if round%3 == 0 {
			x.abort(x.s)
		} else {
			x.commit(x.s)
		}
		if x.s.Left() < left {
			t.Fatalf("Left %d, was %d", x.s.Left(), left)
		}
	}
	x.holds("for ever")
}

// S8: roots and metas: what is refused changes nothing; Abort brings both back.
func TestRootAndMeta(t *testing.T) {
	for _, size := range []int{512, 1024, 2048, 4096} {
		x := begun(t, size, 64)
		most := 40 + size/16
		p, _ := x.make(x.s, api.Leaf, "p")
		q, _ := x.make(x.s, api.Leaf, "q")
		for _, n := range []int{p, q, 0, p, 1, -1, 64, 1 << 40, p} {
			x.setRoot(n)
			x.holds("SetRoot")
		}
		for _, long := range []int{1, most, most + 1, 0, most, most + 1000} {
			x.setMeta(x.s, strings.Repeat("m", long))
			x.holds("SetMeta")
		}
		x.commit(x.s)
		x.setRoot(q)
		x.setMeta(x.s, "other")
		x.holds("changed")
		x.abort(x.s)
		x.holds("taken back")
		x.setRoot(0)
		x.setMeta(x.s, "")
		x.commit(x.s)
		x.holds("nothing")
	}
}

// S6, S7: a root goes with its page.
func TestRootFollows(t *testing.T) {
	x := begun(t, 512, 64)
	p, _ := x.make(x.s, api.Leaf, "p")
	x.setRoot(p)
	x.commit(x.s)
	q, _ := x.set(x.s, p, "q")
	x.holds("set")
	x.set(x.s, q, "again")
	x.holds("set again")
	x.commit(x.s)
	x.free(x.s, q)
	x.holds("freed")
	// The number may be another page's: that one is not the root.
	x.commit(x.s)
	for range 5 {
		x.make(x.s, api.Leaf, "other")
	}
	x.holds("others")
	n := x.now.live()[0]
	x.setRoot(n)
	x.free(x.s, n)
	x.holds("a new one, freed")
	x.make(x.s, api.Leaf, "in its place")
	x.holds("another one in its place")
}

// S9: every Commit is one generation more, whether anything was changed or not.
func TestCommit(t *testing.T) {
	x := begun(t, 512, 64)
	for range 7 {
		x.commit(x.s)
		x.holds("a Commit of nothing")
	}
	n, _ := x.make(x.s, api.Branch, "")
	x.commit(x.s)
	x.holds("an empty page")
	x.commit(x.s)
	x.holds("the same again")
	x.free(x.s, n)
	x.commit(x.s)
	x.holds("none again")
	x.abort(x.s)
	x.holds("nothing is taken back")
}

// S9: a page that was committed is not written any more, while a state or a snapshot has it.
func TestBlocksStay(t *testing.T) {
	x := begun(t, 512, 48)
	r := dice(9)
	for round := range 60 {
		kept := inUse(x.last)
		ahead := map[int]string{}
		for n := range kept {
			b, _ := x.d.Read(n)
			ahead[n] = string(b)
		}
		for range 5 {
			x.anything(&r)
		}
		pending := x.d.Pending()
		for _, w := range pending {
			if kept[w.Block] && inUse(x.last)[w.Block] {
				t.Fatalf("the block %d of a page is written", w.Block)
			}
		}
		if round%2 == 0 {
			x.commit(x.s)
		}
		for n := range kept {
			b, _ := x.d.Read(n)
			if inUse(x.last)[n] && string(b) != ahead[n] {
				t.Fatalf("the block %d of a page has changed", n)
			}
		}
	}
}

// S12: names that may be, and may not be.
func TestSnapNames(t *testing.T) {
	x := begun(t, 512, 64)
	for c := range 256 {
		for _, name := range []string{string([]byte{byte(c)}), string([]byte{'a', byte(c)}), string([]byte{byte(c), '9', '-'})} {
			x.snap(x.s, name)
			x.unsnap(x.s, name)
		}
	}
	for _, name := range []string{"", " ", "a ", "é", "a\x00", "abcdefghijklmnop", "0123456789abcdefg", strings.Repeat("a", 1000), "-", "----------------", "A", "a_b", "a.b"} {
		if err := x.snap(x.s, name); (err == api.OK) != isName(name) {
			t.Errorf("Snap(%q): %v", name, err)
		}
		x.unsnap(x.s, name)
	}
	x.holds("none")
}

// S12: eight of them; a name twice is refused ahead of the ninth; they rise byte by byte.
func TestSnapMany(t *testing.T) {
	x := begun(t, 512, 64)
	names := []string{"z", "a", "-", "9", "10", "a-", "aa", "b"}
	for _, name := range names {
		x.make(x.s, api.Leaf, name)
		want(t, "Snap", x.snap(x.s, name), api.OK)
		x.commit(x.s)
		x.holds(name)
	}
	want(t, "Snap of the ninth", x.snap(x.s, "c"), api.ErrPagesMany)
	want(t, "Snap of a name that is there", x.snap(x.s, "z"), api.ErrPagesName)
	want(t, "Snap of no name", x.snap(x.s, "Z"), api.ErrPagesName)
	if !slices.IsSorted(x.s.Snaps()) || len(x.s.Snaps()) != 8 {
		t.Errorf("Snaps: %q", x.s.Snaps())
	}
	x.unsnap(x.s, "a")
	want(t, "Snap in its place", x.snap(x.s, "c"), api.OK)
	x.holds("one let go, one more")
	x.abort(x.s)
	x.holds("taken back")
	for _, name := range names {
		x.unsnap(x.s, name)
		x.unsnap(x.s, name)
	}
	x.holds("all let go")
	x.commit(x.s)
	x.holds("all let go, committed")
}

// S12: a snapshot is the committed state, not the changes since; its name may be another state's in the same generation.
func TestSnapIsCommitted(t *testing.T) {
	x := begun(t, 512, 64)
	p, _ := x.make(x.s, api.Leaf, "p")
	x.setRoot(p)
	x.setMeta(x.s, "one")
	x.commit(x.s)
	x.snap(x.s, "s")
	x.commit(x.s)
	x.set(x.s, p, "changed")
	x.make(x.s, api.Node, "more")
	x.setMeta(x.s, "two")
	x.snap(x.s, "t")
	x.holds("changes ahead of Snap")
	x.commit(x.s)
	x.holds("and committed")
	x.unsnap(x.s, "s")
	want(t, "Snap", x.snap(x.s, "s"), api.OK)
	x.holds("another one of that name")
	x.commit(x.s)
	x.holds("and committed")
	want(t, "Snap", x.snap(x.s, "u"), api.OK)
	want(t, "Snap", x.snap(x.s, "v"), api.OK)
	x.commit(x.s)
	x.holds("two of one state")
	x.unsnap(x.s, "u")
	x.commit(x.s)
	x.holds("one of the two let go")
}

// P11.4: behind Unsnap and Commit the pages that nothing else has are not in use: there is room for others.
func TestUnsnapGivesRoom(t *testing.T) {
	x := begun(t, 512, 64)
	for x.s.Left() > 0 {
		x.make(x.s, api.Leaf, "a")
	}
	x.commit(x.s)
	x.snap(x.s, "s")
	for _, n := range x.now.live() {
		x.free(x.s, n)
	}
	x.commit(x.s)
	want(t, "New", oneError(x.s.New(api.Leaf, nil)), api.ErrFull)
	x.unsnap(x.s, "s")
	x.holds("let go")
	want(t, "New ahead of the Commit", oneError(x.s.New(api.Leaf, nil)), api.ErrFull)
	x.commit(x.s)
	x.holds("committed")
	for range 64 - 2 - reserve(64) {
		if _, err := x.make(x.s, api.Leaf, "b"); err != api.OK {
			t.Fatalf("New: %v", err)
		}
	}
}

// oneError is the number alone.
func oneError(_ int, err api.Errno) api.Errno { return err }

// S13: nothing can be changed in a snapshot, nor in one that is seen beside it; that is answered ahead of all other errors.
func TestSnapshotsStay(t *testing.T) {
	x := begun(t, 512, 64)
	p, _ := x.make(x.s, api.Leaf, "p")
	q, _ := x.make(x.s, api.Node, "q")
	x.setRoot(p)
	x.setMeta(x.s, "meta")
	x.commit(x.s)
	x.snap(x.s, "s")
	x.commit(x.s)
	asked := x.now.snaps["s"]
	for _, name := range []string{"s", ""} {
		old, err := x.s.At(name)
		want(t, "At", err, api.OK)
		beside, err := old.Beside(q)
		want(t, "Beside of a snapshot", err, api.OK)
		if name == "" {
			asked = x.last.copied()
			asked.snaps = nil
		}
		for _, s := range []*pages.Store{old, beside} {
			refuses(t, s, p)
		}
		tells(t, "a snapshot", old, asked, p)
		tells(t, "seen beside a snapshot", beside, asked, q)
		none, err := old.Beside(0)
		want(t, "Beside of a snapshot", err, api.OK)
		tells(t, "seen beside a snapshot without a root", none, asked, 0)
		again, err := beside.Beside(p)
		want(t, "Beside of one that is beside a snapshot", err, api.OK)
		tells(t, "seen beside that", again, asked, p)
		for _, n := range []int{1, -1, 64, 60} {
			s, err := old.Beside(n)
			if s != nil || err != api.ErrPagesNone {
				t.Errorf("Beside of a snapshot, of no page: %v", err)
			}
		}
	}
	x.holds("nothing was changed")
	for _, name := range []string{"t", "S", "no name at all, and too long"} {
		s, err := x.s.At(name)
		if s != nil || err != api.ErrPagesName {
			t.Errorf("At(%q): %v", name, err)
		}
	}
}

// refuses: every change of a snapshot is refused, whatever its arguments.
func refuses(t *testing.T, s *pages.Store, there int) {
	t.Helper()
	for _, n := range []int{there, 0, -1, 1 << 40} {
		for _, b := range [][]byte{nil, []byte("x"), make([]byte, 5000)} {
			to, err := s.Set(n, b)
			if to != 0 || err != api.ErrPagesSnap {
				t.Errorf("Set of a snapshot: %d, %v", to, err)
			}
			made, err := s.New(api.PageKind(n), b)
			if made != 0 || err != api.ErrPagesSnap {
				t.Errorf("New of a snapshot: %d, %v", made, err)
			}
			want(t, "SetMeta of a snapshot", s.SetMeta(b), api.ErrPagesSnap)
		}
		want(t, "Free of a snapshot", s.Free(n), api.ErrPagesSnap)
		want(t, "SetRoot of a snapshot", s.SetRoot(n), api.ErrPagesSnap)
	}
	for _, name := range []string{"s", "t", "", "S"} {
		want(t, "Snap of a snapshot", s.Snap(name), api.ErrPagesSnap)
		want(t, "Unsnap of a snapshot", s.Unsnap(name), api.ErrPagesSnap)
		old, err := s.At(name)
		if old != nil || err != api.ErrPagesSnap {
			t.Errorf("At of a snapshot: %v", err)
		}
	}
	want(t, "Commit of a snapshot", s.Commit(), api.ErrPagesSnap)
	want(t, "Abort of a snapshot", s.Abort(), api.ErrPagesSnap)
}

// P11.4: a snapshot's store tells the same, whatever is changed and committed, as long as the snapshot is there.
func TestSnapshotsOutlast(t *testing.T) {
	x := begun(t, 512, 80)
	r := dice(4)
	for range 12 {
		x.make(x.s, api.PageKind(r.roll(2, 5)), r.text(30))
	}
	p := x.now.live()[3]
	x.setRoot(p)
	x.commit(x.s)
	x.snap(x.s, "s")
	old, err := x.s.At("s")
	want(t, "At", err, api.OK)
	beside, err := old.Beside(x.now.live()[5])
	want(t, "Beside", err, api.OK)
	asked, root := x.now.snaps["s"], x.now.live()[5]
	x.commit(x.s)
	for round := range 200 {
		x.anything(&r)
		if round%7 == 0 {
			x.commit(x.s)
		}
		if _, there := x.now.snaps["s"]; !there {
			x.abort(x.s)
		}
		tells(t, "a snapshot", old, asked, p)
		tells(t, "seen beside a snapshot", beside, asked, root)
	}
	x.unsnap(x.s, "s")
	x.commit(x.s)
	x.holds("let go")
}

// S14: one store, several roots: what is changed in one is changed in all, but for their roots.
func TestBeside(t *testing.T) {
	x := begun(t, 512, 64)
	p, _ := x.make(x.s, api.Leaf, "p")
	q, _ := x.make(x.s, api.Leaf, "q")
	x.setRoot(p)
	b := x.see(x.s, q)
	c := x.see(b, q)
	x.see(c, 0)
	x.see(x.s, p)
	x.holds("seen beside")
	x.commit(b)
	x.holds("committed by one beside")
	r, _ := x.set(c, q, "r")
	x.holds("set by another")
	x.set(x.s, p, "other")
	x.holds("the root itself")
	want(t, "SetRoot", b.SetRoot(0), api.OK)
	x.roots[0] = 0
	x.holds("one without a root")
	want(t, "SetRoot", b.SetRoot(r), api.OK)
	x.roots[0] = r
	want(t, "SetRoot of no page", b.SetRoot(63), api.ErrPagesNone)
	x.setMeta(b, "by one")
	x.snap(c, "s")
	x.holds("all of it")
	x.commit(x.s)
	x.holds("committed")
	x.unsnap(b, "s")
	x.free(b, r)
	x.holds("freed")
	x.abort(c)
	x.holds("taken back by another")
	want(t, "SetRoot", b.SetRoot(r), api.OK)
	x.roots[0] = r
	x.holds("a root again")
	n, _ := x.make(b, api.Node, "n")
	x.set(b, r, "moved")
	x.see(b, n)
	x.holds("a new one")
	x.free(x.s, n)
	x.make(x.s, api.Node, "in its place")
	x.holds("its root went, and another page may have its number")
	x.commit(c)
	x.holds("and committed")
}

// S14: seen beside itself, opened anew only the store's own root is there.
func TestBesideIsNotWritten(t *testing.T) {
	x := begun(t, 512, 64)
	p, _ := x.make(x.s, api.Leaf, "p")
	q, _ := x.make(x.s, api.Leaf, "q")
	b := x.see(x.s, 0)
	want(t, "SetRoot", b.SetRoot(q), api.OK)
	x.roots[0] = q
	x.commit(b)
	x.holds("the store has no root")
	x.setRoot(p)
	want(t, "SetRoot", b.SetRoot(0), api.OK)
	x.roots[0] = 0
	x.commit(b)
	x.holds("the store has one")
}

// anything does something to a store, or to one beside it, that may be refused.
func (x *trial) anything(r *dice) {
	x.t.Helper()
	s := x.some(r.roll(0, 3))
	n := one(r, x.now.live())
	if r.roll(0, 9) == 0 {
		n = r.roll(-1, x.d.Blocks())
	}
	long := x.d.Size() - 32
	name := one(r, []string{"a", "b", "c", "d", "e", "f", "g", "h", "i", "j", "", "A"})
	switch r.roll(0, 19) {
	case 0, 1, 2, 3, 4:
		x.make(s, api.PageKind(r.roll(2, 5)), r.text(30))
	case 5:
		x.make(s, api.PageKind(r.roll(0, 6)), r.text(long+10))
	case 6, 7, 8, 9:
		x.set(s, n, r.text(30))
	case 10:
		x.set(s, n, r.text(long+10))
	case 11, 12, 13:
		x.free(s, n)
	case 14, 15:
		x.setRoot(n)
	case 16:
		x.setMeta(s, r.text(41+x.d.Size()/16))
	case 17:
		x.snap(s, name)
	case 18:
		x.unsnap(s, name)
	case 19:
		x.seeSome(r, n)
	}
}

// seeSome sees the store beside itself, or gives one that is there another root.
func (x *trial) seeSome(r *dice, n int) {
	x.t.Helper()
	if len(x.beside) < 4 {
		x.see(x.some(r.roll(0, 3)), n)
		return
	}
	i := r.roll(0, 3)
	err := x.beside[i].SetRoot(n)
	if _, there := x.now.pages[n]; n != 0 && !there {
		x.want("SetRoot beside", err, api.ErrPagesNone)
		return
	}
	x.want("SetRoot beside", err, api.OK)
	x.roots[i] = n
}

// P11.1: thrown calls, on devices of many sizes, against the chapter's words.
func TestThrown(t *testing.T) {
	for seed := range 60 {
		t.Run(fmt.Sprint("seed ", seed), func(t *testing.T) {
			t.Parallel()
			r := dice(seed)
			x := begun(t, one(&r, []int{512, 1024, 2048, 4096}), r.roll(16, 150))
			for range 150 {
				x.someChanges(&r)
				if r.roll(0, 5) == 0 {
					x.holds("between")
				}
			}
			x.holds("at the end")
		})
	}
}

// someChanges does some of them, and, perhaps, takes them back or commits them.
func (x *trial) someChanges(r *dice) {
	x.t.Helper()
	for range r.roll(0, 12) {
		x.anything(r)
	}
	switch r.roll(0, 9) {
	case 0:
		x.abort(x.some(r.roll(0, 3)))
	case 1:
		x.reopen()
	case 2:
	default:
		x.commit(x.some(r.roll(0, 3)))
	}
}

// S9: the greatest device of the least blocks, and others, as full as they may be, with eight snapshots of long metas: a Commit never has too few blocks.
func TestGreatest(t *testing.T) {
	for size, blocks := range map[int]int{512: api.MaxBlocks, 1024: 100, 2048: 3000, 4096: 1000} {
		x := begun(t, size, blocks)
		for i := range 8 {
			for range blocks / 12 {
				n, err := x.s.New(api.Other, []byte{byte(i)})
				want(t, "New", err, api.OK)
				x.now.pages[n] = leaf{api.Other, string([]byte{byte(i)}), x.last.gen + 1}
			}
			x.setMeta(x.s, strings.Repeat(fmt.Sprint(i), 40+size/16))
			x.commit(x.s)
			want(t, "Snap", x.snap(x.s, fmt.Sprint("sixteen-letters", i)), api.OK)
			if i%2 == 1 {
				for _, n := range x.now.live() {
					if n%3 == 0 {
						want(t, "Free", x.s.Free(n), api.OK)
						delete(x.now.pages, n)
					}
				}
			}
		}
		for x.s.Left() > 0 {
			n, err := x.s.New(api.Leaf, nil)
			want(t, "New", err, api.OK)
			x.now.pages[n] = leaf{api.Leaf, "", x.last.gen + 1}
		}
		x.commit(x.s)
		x.commit(x.s)
		x.holds("greatest")
	}
}

// S9, S11: on a device of few blocks, with as many pages as there may be and the longest books, Commit and Commit again have room, whatever was changed.
func TestReserve(t *testing.T) {
	for blocks := 16; blocks < 80; blocks++ {
		x := begun(t, 512, blocks)
		r := dice(blocks)
		for i := range 8 {
			x.setMeta(x.s, strings.Repeat(fmt.Sprint(i), 72))
			if x.s.Left() > 0 {
				x.make(x.s, api.Leaf, "x")
			}
			x.commit(x.s)
			want(t, "Snap", x.snap(x.s, fmt.Sprint("sixteen-letters", i)), api.OK)
		}
		for range 6 {
			for x.s.Left() > 0 {
				x.make(x.s, api.Node, "fill")
			}
			x.commit(x.s)
			x.free(x.s, one(&r, x.now.live()))
		}
		x.commit(x.s)
		x.holds(fmt.Sprint(blocks, " blocks"))
	}
}

// P5: what is answered is an error's number.
func TestErrorsAreNumbers(t *testing.T) {
	_, _, err := pages.Open(nil)
	if !errors.Is(err, api.ErrArg) {
		t.Error("errors.Is does not find it")
	}
}
