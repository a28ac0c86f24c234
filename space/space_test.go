package space_test

import (
	"bytes"
	"slices"
	"sort"
	"testing"

	"banyan/api"
	"banyan/space"
)

// The chapter's examples, in their order.
func TestExamples(t *testing.T) {
	s, err := space.New(16, 2)
	if s == nil || err != api.OK {
		t.Fatalf("New(16, 2): %v", err)
	}
	for _, x := range []struct {
		free, want int
	}{{-1, 2}, {-1, 3}, {2, 2}} {
		if x.free >= 0 {
			want(t, "Free", s.Free(x.free), api.OK)
		}
		if n, err := s.Alloc(); n != x.want || err != api.OK {
			t.Errorf("Alloc: %d, %v, want %d", n, err, x.want)
		}
	}
	want(t, "Take(9)", s.Take(9), api.OK)
	want(t, "Take(9) again", s.Take(9), api.ErrSpaceUsed)
	want(t, "Take(16)", s.Take(16), api.ErrSpaceRange)
	want(t, "Free(-1)", s.Free(-1), api.ErrSpaceRange)
	want(t, "Free(10)", s.Free(10), api.ErrSpaceFree)
	if r := s.Runs(); !slices.Equal(r, []api.Run{{From: 0, Count: 4}, {From: 9, Count: 1}}) {
		t.Errorf("Runs: %v", r)
	}
	const text = "\x00\x00\x00\x02\x00\x00\x00\x00\x00\x00\x00\x04\x00\x00\x00\x09\x00\x00\x00\x01"
	if b := s.Encode(); string(b) != text {
		t.Errorf("Encode: %x", b)
	}
	if s.Used() != 5 || s.Left() != 11 || !s.Has(9) || s.Has(16) {
		t.Errorf("Used %d, Left %d, Has(9) %v, Has(16) %v", s.Used(), s.Left(), s.Has(9), s.Has(16))
	}
	const two = "\x00\x00\x00\x02\x00\x00\x00\x00\x00\x00\x00\x02\x00\x00\x00\x02\x00\x00\x00\x01"
	if s, err := space.Decode(16, []byte(two)); s != nil || err != api.ErrSpaceForm {
		t.Errorf("Decode of two runs that are one: %v", err)
	}
	for _, x := range [][2]int{{15, 0}, {16, 17}} {
		if s, err := space.New(x[0], x[1]); s != nil || err != api.ErrArg {
			t.Errorf("New(%d, %d): %v", x[0], x[1], err)
		}
	}
}

// F1: the first ones are used, none and all among them.
func TestNew(t *testing.T) {
	for _, blocks := range counts {
		for _, used := range []int{0, 1, 2, 15, 16, 17, 63, 64, 65, 127, 128, 129, blocks - 1, blocks} {
			if used > blocks {
				continue
			}
			s, err := space.New(blocks, used)
			if err != api.OK {
				t.Fatalf("New(%d, %d): %v", blocks, used, err)
			}
			tells(t, "New", s, firstOf(blocks, used))
		}
	}
}

// F1, F5: numbers of blocks, and of used ones, that may not be.
func TestWrongCounts(t *testing.T) {
	for _, blocks := range wrongCounts {
		for _, used := range []int{0, 1, -1, 15, 16, blocks, 1<<63 - 1, -1 << 63} {
			if s, err := space.New(blocks, used); s != nil || err != api.ErrArg {
				t.Errorf("New(%d, %d): %v", blocks, used, err)
			}
		}
		// ErrArg is named ahead of ErrSpaceForm.
		for _, b := range [][]byte{nil, {}, {0, 0, 0, 0}, {1}, text(api.Run{From: 0, Count: 2}), text(api.Run{})} {
			if s, err := space.Decode(blocks, b); s != nil || err != api.ErrArg {
				t.Errorf("Decode(%d, %x): %v", blocks, b, err)
			}
		}
	}
	for _, blocks := range counts {
		for _, used := range []int{-1, -2, -64, blocks + 1, blocks + 64, 65537, 1 << 32, 1<<63 - 1, -1 << 63} {
			if s, err := space.New(blocks, used); s != nil || err != api.ErrArg {
				t.Errorf("New(%d, %d): %v", blocks, used, err)
			}
		}
	}
}

// F2, P9.2: Alloc tells the free blocks, the least first, each once, and then ErrFull, which changes nothing.
func TestAlloc(t *testing.T) {
	for _, blocks := range counts {
		for _, asked := range patterns(blocks) {
			s := asked.make(t)
			for {
				n, err := asked.alloc()
				got, gotErr := s.Alloc()
				if got != n || gotErr != err {
					t.Fatalf("of %d: Alloc: %d, %v, want %d, %v", blocks, got, gotErr, n, err)
				}
				if err != api.OK || blocks > 1000 && n > 300 && n < blocks-100 {
					break
				}
			}
			tells(t, "Alloc", s, asked)
		}
	}
}

// F2: at the limit all blocks are told, and none more.
func TestAllocAll(t *testing.T) {
	for _, blocks := range counts {
		s := setOf(blocks).make(t)
		for want := range blocks {
			if n, err := s.Alloc(); n != want || err != api.OK {
				t.Fatalf("of %d: Alloc: %d, %v, want %d", blocks, n, err, want)
			}
		}
		for range 2 {
			if n, err := s.Alloc(); n != 0 || err != api.ErrFull {
				t.Errorf("of %d: Alloc of a full one: %d, %v", blocks, n, err)
			}
			tells(t, "a full one", s, firstOf(blocks, blocks))
		}
		last := blocks - 1
		want(t, "Free", s.Free(last), api.OK)
		if n, err := s.Alloc(); n != last || err != api.OK {
			t.Errorf("of %d: Alloc of the last one: %d, %v", blocks, n, err)
		}
	}
}

// F3: Take and Free of each block, whether it is used or free; a refused one changes nothing.
func TestTakeAndFree(t *testing.T) {
	for _, blocks := range counts {
		for _, asked := range patterns(blocks)[:8] {
			s := asked.make(t)
			for n := range asked {
				want(t, "Take", s.Take(n), asked.take(n))
				want(t, "Take again", s.Take(n), api.ErrSpaceUsed)
			}
			tells(t, "all taken", s, asked)
			for n := range asked {
				if n%3 == 0 {
					want(t, "Free", s.Free(n), asked.free(n))
					want(t, "Free again", s.Free(n), api.ErrSpaceFree)
				}
			}
			tells(t, "some freed", s, asked)
		}
	}
}

// F3, F4: there is no such block, beside both ends and far away.
func TestNoSuchBlock(t *testing.T) {
	for _, blocks := range counts {
		for _, asked := range []set{setOf(blocks), firstOf(blocks, blocks), setOf(blocks, 0, blocks-1)} {
			s := asked.make(t)
			for _, n := range append([]int{blocks, blocks + 1, blocks + 63, blocks + 64}, farNumbers...) {
				want(t, "Take", s.Take(n), api.ErrSpaceRange)
				want(t, "Free", s.Free(n), api.ErrSpaceRange)
			}
			tells(t, "refused", s, asked)
		}
	}
}

// F4, F5, P9.3: all sets of 16 blocks: what is told of them, their bytes, and what these are read as.
func TestAllSets(t *testing.T) {
	for bits := range 1 << 16 {
		asked := setOf(16)
		for n := range asked {
			asked[n] = bits>>n&1 == 1
		}
		s, err := space.Decode(16, asked.written())
		if err != api.OK {
			t.Fatalf("Decode(%x): %v", asked.written(), err)
		}
		tells(t, "Decode", s, asked)
		n, err := s.Alloc()
		least, askedErr := asked.alloc()
		if n != least || err != askedErr {
			t.Fatalf("Alloc: %d, %v, want %d, %v", n, err, least, askedErr)
		}
		if err == api.OK {
			tells(t, "Alloc", s, asked)
		}
	}
}

// F5, P9.3: runs that begin and end beside the ends of words, at every number of blocks.
func TestRuns(t *testing.T) {
	for _, blocks := range counts {
		for _, asked := range patterns(blocks) {
			tells(t, "Take", asked.make(t), asked)
			if !decodes(t, blocks, asked.written()) {
				t.Fatalf("of %d: bytes of a space are refused", blocks)
			}
		}
	}
	for from := range 140 {
		for count := 1; count <= 140; count++ {
			asked := setOf(300)
			for n := range count {
				asked[from+n] = true
			}
			tells(t, "one run", asked.make(t), asked)
		}
	}
}

// F5, P9.3: of all lists of up to two runs, those that may not be of 16 blocks are refused: empty ones, ones that fall, meet, touch or go beyond the last block.
func TestFormOfFewRuns(t *testing.T) {
	taken := 0
	hold := func(runs ...api.Run) {
		if decodes(t, 16, text(runs...)) {
			taken++
		}
	}
	hold()
	for a := range 18 {
		for b := range 18 {
			hold(api.Run{From: a, Count: b})
			for c := range 18 {
				for d := range 18 {
					hold(api.Run{From: a, Count: b}, api.Run{From: c, Count: d})
				}
			}
		}
	}
	// One run: two of 17 borders; two of them: four of 17 borders.
	if taken != 1+136+2380 {
		t.Errorf("%d lists were taken, want %d", taken, 1+136+2380)
	}
}

// F5: three runs, of which the last one or the one between them is wrong; great numbers.
func TestFormOfMoreRuns(t *testing.T) {
	numbers := []int{0, 1, 2, 3, 8, 15, 16, 17, 64, 65535, 65536, 1<<31 - 1, 1 << 31, 1<<32 - 1, 1<<32 - 16}
	for _, blocks := range []int{16, 64, 65536} {
		for _, from := range numbers {
			for _, count := range numbers {
				r := api.Run{From: from, Count: count}
				decodes(t, blocks, text(r))
				decodes(t, blocks, text(api.Run{From: 1, Count: 1}, r))
				decodes(t, blocks, text(r, api.Run{From: 14, Count: 1}))
				decodes(t, blocks, text(api.Run{From: 0, Count: 1}, r, api.Run{From: 14, Count: 2}))
				decodes(t, blocks, text(api.Run{From: 0, Count: 1}, api.Run{From: 4, Count: 2}, r))
			}
		}
	}
}

// F5: the last block may be used; a run that goes one beyond it is refused, and so are bytes of more blocks.
func TestFormOfOtherBlocks(t *testing.T) {
	for _, blocks := range counts {
		for _, of := range counts {
			b := firstOf(of, of).written()
			if decodes(t, blocks, b) != (of <= blocks) {
				t.Errorf("Decode(%d) of %d blocks", blocks, of)
			}
			decodes(t, blocks, setOf(of, 1, of-1).written())
			decodes(t, blocks, text(api.Run{From: of - 1, Count: 2}))
			decodes(t, blocks, text(api.Run{From: of, Count: 1}))
		}
	}
}

// F5: beginnings of bytes, bytes behind them, counts that are wrong, and no bytes at all.
func TestFormOfLengths(t *testing.T) {
	for _, asked := range []set{setOf(16), setOf(16, 3), setOf(16, 0, 2, 3, 9, 15), setOf(600, 255, 256, 511, 512, 599)} {
		b := asked.written()
		for n := range b {
			if decodes(t, len(asked), b[:n]) {
				t.Errorf("the first %d of %x are taken", n, b)
			}
		}
		for n := 1; n <= 17; n++ {
			for _, fill := range []byte{0, 1, 7, 255} {
				if longer := append(bytes.Clone(b), bytes.Repeat([]byte{fill}, n)...); decodes(t, len(asked), longer) {
					t.Errorf("%x is taken", longer)
				}
			}
		}
		for _, count := range []int{0, 1, 2, 3, 4, 5, 6, 256, 65536, 1 << 24, 1 << 29, 1 << 30, 1 << 31, 1<<32 - 1} {
			other := append([]byte(digits(count)), b[4:]...)
			if decodes(t, len(asked), other) != bytes.Equal(other, b) {
				t.Errorf("%x is taken or refused", other)
			}
		}
	}
	if s, err := space.Decode(16, nil); s != nil || err != api.ErrSpaceForm {
		t.Errorf("Decode of nil: %v", err)
	}
}

// F5: bytes in which one byte is another one.
func TestFormOfTurnedBytes(t *testing.T) {
	for _, asked := range []set{setOf(16), firstOf(16, 16), setOf(16, 0, 2, 3, 9, 15), setOf(600, 1, 2, 255, 256, 511, 512, 599)} {
		b := asked.written()
		for at := range b {
			for by := 1; by < 256; by++ {
				other := bytes.Clone(b)
				other[at] ^= byte(by)
				decodes(t, len(asked), other)
			}
		}
	}
}

// P9.3: thrown sets of every length of runs, at every number of blocks.
func TestThrownSets(t *testing.T) {
	r := dice(9)
	for _, blocks := range counts {
		for _, long := range []int{1, 2, 3, 10, 100, 1000} {
			asked := r.thrown(blocks, long)
			s, err := space.Decode(blocks, asked.written())
			if err != api.OK {
				t.Fatalf("Decode of %d blocks: %v", blocks, err)
			}
			tells(t, "thrown", s, asked)
			again, err := space.Decode(blocks, s.Encode())
			if err != api.OK {
				t.Fatalf("Decode of Encode of %d blocks: %v", blocks, err)
			}
			tells(t, "thrown, again", again, asked)
		}
	}
}

// twin is a space, and the set that it must be.
type twin struct {
	s     *space.Space
	asked set
}

// step does one call to both; false: they answered otherwise.
func (x *twin) step(r *dice) bool {
	n := r.roll(-2, len(x.asked)+1)
	switch r.roll(0, 9) {
	case 0, 1, 2:
		got, err := x.s.Alloc()
		least, askedErr := x.asked.alloc()
		return got == least && err == askedErr
	case 3, 4:
		return x.s.Take(n) == x.asked.take(n)
	case 5, 6, 7, 8:
		return x.s.Free(n) == x.asked.free(n)
	}
	return x.s.Has(n) == x.asked.has(n)
}

// other is another twin that is as this one is, by Copy or by bytes.
func (x *twin) other(r *dice) *twin {
	s := x.s.Copy()
	if r.roll(0, 1) == 0 {
		s, _ = space.Decode(len(x.asked), x.s.Encode())
	}
	return &twin{s, slices.Clone(x.asked)}
}

// P9.1, F6: thrown calls on several spaces of which the later ones are copies of the earlier ones; each goes its own way.
func TestModel(t *testing.T) {
	for seed := range 80 {
		r := dice(seed)
		blocks := counts[seed%13]
		all := []*twin{{setOf(blocks).make(t), setOf(blocks)}}
		for i := range 1500 {
			x := all[r.roll(0, len(all)-1)]
			if !x.step(&r) {
				t.Fatalf("seed %d, step %d: another answer than the model's", seed, i)
			}
			if len(all) < 5 && r.roll(0, 100) == 0 {
				all = append(all, x.other(&r))
			}
			if i%20 == 0 || i > 1490 {
				for _, y := range all {
					tells(t, "thrown calls", y.s, y.asked)
				}
			}
		}
	}
}

// P9.2: of blocks that were told, and not freed, no two are alike, and none of them was used; Used and Left make up the blocks.
func TestEachOnce(t *testing.T) {
	for seed := range 40 {
		r := dice(1000 + seed)
		blocks, used := counts[seed%13], r.roll(0, 16)
		s, _ := space.New(blocks, used)
		told := map[int]bool{}
		for range 3000 {
			if r.roll(0, 2) > 0 {
				n, err := s.Alloc()
				if err == api.OK && (told[n] || n < used || n >= blocks) {
					t.Fatalf("seed %d: Alloc: %d, which is used, or there is none", seed, n)
				}
				if full := len(told)+used == blocks; full != (err == api.ErrFull) {
					t.Fatalf("seed %d: Alloc: %v of %d used ones of %d", seed, err, len(told)+used, blocks)
				}
				if err == api.OK {
					told[n] = true
				}
			} else if list := keysOf(told); len(list) > 0 {
				n := list[r.roll(0, len(list)-1)]
				want(t, "Free", s.Free(n), api.OK)
				delete(told, n)
			}
			if s.Used() != len(told)+used || s.Used()+s.Left() != blocks {
				t.Fatalf("seed %d: Used %d, Left %d of %d blocks", seed, s.Used(), s.Left(), blocks)
			}
		}
	}
}

// keysOf are the blocks of a map, rising.
func keysOf(m map[int]bool) []int {
	var list []int
	for n := range m {
		list = append(list, n)
	}
	sort.Ints(list)
	return list
}

// roads are spaces that are as the set says, each by another road.
func roads(t *testing.T, asked set) []*space.Space {
	t.Helper()
	blocks := len(asked)
	rising := asked.make(t)
	falling, _ := space.New(blocks, 0)
	freed, _ := space.New(blocks, blocks)
	worn, _ := space.New(blocks, blocks/2)
	for worn.Left() > 0 {
		worn.Alloc()
	}
	for n := blocks - 1; n >= 0; n-- {
		worn.Free(n)
		if asked[n] {
			falling.Take(n)
		} else {
			freed.Free(n)
		}
	}
	for n, used := range asked {
		worn.Alloc()
		if !used && n > 0 {
			worn.Free(n - 1)
			worn.Alloc()
		}
	}
	for n, used := range asked {
		if !used {
			worn.Free(n)
		}
	}
	read, _ := space.Decode(blocks, asked.written())
	return []*space.Space{rising, falling, freed, worn, read, freed.Copy(), worn.Copy()}
}

// P9.4: by whatever road a space came to be, it tells the same, and goes on the same.
func TestSetAlone(t *testing.T) {
	r := dice(4)
	for _, blocks := range []int{16, 17, 64, 65, 130, 1000} {
		for _, start := range append(patterns(blocks), r.thrown(blocks, 2), r.thrown(blocks, 9)) {
			for road, s := range roads(t, start) {
				tells(t, "a road", s, start)
				asked := slices.Clone(start)
				x, goesOn := &twin{s, asked}, dice(blocks)
				for range 60 {
					if !x.step(&goesOn) {
						t.Fatalf("of %d blocks: road %d goes on otherwise", blocks, road)
					}
				}
				tells(t, "a road, gone on", s, asked)
			}
		}
	}
}

// F6: a copy is as the space was; what is done to the one is not done to the other.
func TestCopy(t *testing.T) {
	for _, blocks := range counts {
		for _, asked := range patterns(blocks)[:6] {
			s := asked.make(t)
			c := s.Copy()
			tells(t, "a copy", c, asked)
			mine, others := slices.Clone(asked), slices.Clone(asked)
			for n := 0; n < blocks; n += 7 {
				want(t, "Take", s.Take(n), mine.take(n))
				want(t, "Free of the copy", c.Free(n), others.free(n))
			}
			s.Alloc()
			mine.alloc()
			tells(t, "what was copied", s, mine)
			tells(t, "the copy", c, others)
		}
	}
}
