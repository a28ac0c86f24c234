package dead_test

import (
	"slices"
	"testing"

	"banyan/api"
	"banyan/dead"
)

// The chapter's examples, in their order.
func TestExamples(t *testing.T) {
	l := dead.New()
	for _, x := range []struct {
		x    api.Life
		want api.Errno
	}{
		{life(7, 3, 5), api.OK}, {life(7, 5, 9), api.OK}, {life(8, 1, 9), api.OK},
		{life(7, 4, 6), api.ErrDeadTwo}, {life(7, 3, 5), api.ErrDeadTwo},
		{life(1, 3, 5), api.ErrDeadSpan}, {life(65536, 3, 5), api.ErrDeadSpan}, {life(9, 5, 5), api.ErrDeadSpan},
	} {
		want(t, "Put", l.Put(x.x), x.want)
	}
	if lives := l.Lives(); !slices.Equal(lives, []api.Life{life(7, 3, 5), life(7, 5, 9), life(8, 1, 9)}) {
		t.Errorf("Lives: %v", lives)
	}
	wantPages(t, "Held(4)", l.Held(4), 7, 8)
	wantPages(t, "Held(5)", l.Held(5), 7, 8)
	wantPages(t, "Held(9)", l.Held(9))
	wantPages(t, "Free(5, 5)", l.Free([]uint64{5, 5}), 7)
	if l.Count() != 2 {
		t.Errorf("Count: %d, want 2", l.Count())
	}
	wantPages(t, "Free(2)", l.Free([]uint64{2}), 7)
	wantPages(t, "Free(2) again", l.Free([]uint64{2}))
	wantPages(t, "Free()", l.Free(nil), 8)
	tells(t, "all freed", l, nil)
}

// New: without lives; every one its own.
func TestNew(t *testing.T) {
	l, other := dead.New(), dead.New()
	tells(t, "New", l, nil)
	for _, snaps := range [][]uint64{nil, {}, {0}, {greatest}, {3, 1, 2}} {
		wantPages(t, "Free of a new one", l.Free(snaps))
	}
	want(t, "Put", l.Put(life(2, 0, 1)), api.OK)
	tells(t, "one put", l, heap{life(2, 0, 1)})
	tells(t, "another one", other, nil)
	tells(t, "one made later", dead.New(), nil)
}

// Put: pages and generations at the limits are taken.
func TestPutLimits(t *testing.T) {
	pages := []int{2, 3, 255, 256, 32767, 32768, 65534, 65535}
	ends := [][2]uint64{{0, 1}, {0, greatest}, {1, 2}, {greatest - 1, greatest}, {1<<63 - 1, 1 << 63}, {1, 1 << 63}, {1<<32 - 1, 1 << 32}}
	for _, page := range pages {
		for _, e := range ends {
			x := life(page, e[0], e[1])
			tells(t, "one", made(t, x), heap{x})
		}
	}
	var h heap
	for _, page := range pages {
		h = append(h, life(page, 0, 1), life(page, greatest-1, greatest), life(page, 1, greatest-1))
	}
	tells(t, "all pages", made(t, h...), h)
}

// Put: pages that may not be, and lives that end ahead of their beginning, or with it, are refused, and nothing is changed.
func TestPutSpan(t *testing.T) {
	asked := heap{life(2, 3, 9), life(7, 3, 9), life(65535, 3, 9)}
	l := made(t, asked...)
	for _, page := range []int{1, 0, -1, -2, -7, -65535, 65536, 65537, 65538, 65543, 1 << 17, 1 << 31, 1<<32 + 7, 1<<63 - 1, -1 << 63} {
		for _, e := range [][2]uint64{{3, 5}, {0, 1}, {9, 12}, {0, greatest}, {5, 5}, {5, 3}} {
			want(t, "Put of no page", l.Put(life(page, e[0], e[1])), api.ErrDeadSpan)
		}
	}
	// ErrDeadSpan is named ahead of ErrDeadTwo: some of these have a beginning or an end within the life that is there.
	for _, page := range []int{2, 7, 9, 65535} {
		for _, e := range [][2]uint64{{5, 5}, {3, 3}, {9, 9}, {0, 0}, {greatest, greatest}, {5, 4}, {9, 3}, {3, 2}, {12, 4}, {12, 1}, {1, 0}, {greatest, 0}, {greatest, greatest - 1}, {1 << 63, 1}, {1 << 63, 1<<63 - 1}, {1 << 32, 1}} {
			want(t, "Put of no span", l.Put(life(page, e[0], e[1])), api.ErrDeadSpan)
		}
	}
	want(t, "Put of the zero life", l.Put(api.Life{}), api.ErrDeadSpan)
	tells(t, "refused", l, asked)
	want(t, "Put of no page into a new one", dead.New().Put(life(1, 3, 5)), api.ErrDeadSpan)
}

// Put: two lives of one page, held against each other in all ways, in low and in high generations; of two pages they never meet.
func TestMeetTwo(t *testing.T) {
	for _, from := range []uint64{0, 1, 1<<31 - 4, 1<<32 - 4, 1<<63 - 4, greatest - 7} {
		for _, a := range spans(7, from, from+7) {
			for _, b := range spans(7, from, from+7) {
				asked := heap{a}
				l := made(t, a)
				want(t, "Put", l.Put(b), asked.put(b))
				stands(t, "two of one page", l, asked)
				other := b
				for _, other.Page = range []int{6, 8, 2, 65535} {
					stands(t, "two pages", made(t, a, other), heap{a, other})
				}
			}
		}
	}
}

// Put: all lists of lives of one page within six generations, with lives of the pages beside it, and every life put into them.
func TestMeetMany(t *testing.T) {
	lists, all, r := allLists(spans(7, 0, 6)), spans(7, 0, 7), dice(1)
	if len(lists) != 233 {
		t.Fatalf("%d lists, want 233", len(lists))
	}
	for _, h := range lists {
		h = append(slices.Clone(h), life(6, 0, 7), life(6, 9, 12), life(8, 0, 7), life(8, 8, 9))
		for _, x := range all {
			l, asked := made(t, mixed(&r, h)...), slices.Clone(h)
			err := asked.put(x)
			want(t, "Put", l.Put(x), err)
			stands(t, "put", l, asked)
			want(t, "Put again", l.Put(x), api.ErrDeadTwo)
			stands(t, "put again", l, asked)
		}
	}
}

// Put: lives that touch do not meet, from both sides, and between two.
func TestTouch(t *testing.T) {
	l := made(t, life(7, 10, 20), life(7, 30, 40))
	want(t, "one too early", l.Put(life(7, 19, 30)), api.ErrDeadTwo)
	want(t, "one too late", l.Put(life(7, 20, 31)), api.ErrDeadTwo)
	want(t, "around both", l.Put(life(7, 0, greatest)), api.ErrDeadTwo)
	want(t, "around the first one", l.Put(life(7, 9, 21)), api.ErrDeadTwo)
	want(t, "around the second one", l.Put(life(7, 29, 41)), api.ErrDeadTwo)
	want(t, "within the first one", l.Put(life(7, 11, 12)), api.ErrDeadTwo)
	want(t, "the same beginning, shorter", l.Put(life(7, 10, 11)), api.ErrDeadTwo)
	want(t, "the same beginning, longer", l.Put(life(7, 10, 25)), api.ErrDeadTwo)
	want(t, "the same end, shorter", l.Put(life(7, 39, 40)), api.ErrDeadTwo)
	want(t, "the same end, longer", l.Put(life(7, 25, 40)), api.ErrDeadTwo)
	want(t, "right between", l.Put(life(7, 20, 30)), api.OK)
	want(t, "right ahead", l.Put(life(7, 0, 10)), api.OK)
	want(t, "right behind", l.Put(life(7, 40, greatest)), api.OK)
	tells(t, "touching", l, heap{life(7, 20, 30), life(7, 40, greatest), life(7, 0, 10), life(7, 30, 40), life(7, 10, 20)})
}

// Held: from Born on, up to Died, that one not; of each page once; pages rise, however their lives came.
func TestHeld(t *testing.T) {
	l := made(t, life(9, 5, 6), life(65535, 0, greatest), life(4, 3, 8), life(9, 3, 5), life(2, 0, 1), life(9, 6, 7))
	for g, pages := range [][]int{{2, 65535}, {65535}, {65535}, {4, 9, 65535}, {4, 9, 65535}, {4, 9, 65535}, {4, 9, 65535}, {4, 65535}, {65535}} {
		wantPages(t, "Held", l.Held(uint64(g)), pages...)
	}
	wantPages(t, "Held of the last but one", l.Held(greatest-1), 65535)
	wantPages(t, "Held of the last one", l.Held(greatest))
	for _, from := range []uint64{0, 1, 1<<32 - 3, 1<<63 - 3, greatest - 6} {
		for _, h := range allLists(spans(3, from, from+6)) {
			tells(t, "all lists", made(t, h...), h)
		}
	}
}

// Free: all lists of two pages within five generations, with all snapshots, in several orders and told several times.
func TestFreeAll(t *testing.T) {
	r := dice(2)
	one, two := allLists(spans(5, 0, 5)), allLists(spans(6, 0, 4))
	for _, a := range one {
		for _, b := range two {
			h := append(slices.Clone(a), b...)
			for bits := range 1 << 6 {
				snaps := someOf(bits)
				snaps = mixed(&r, append(snaps, snaps[:r.roll(0, len(snaps))]...))
				asked := slices.Clone(h)
				frees(t, made(t, h...), &asked, snaps)
			}
		}
	}
}

// Free: a page is told once, of however many lives; also while another life of it stays.
func TestFreePagesOnce(t *testing.T) {
	h := heap{life(7, 1, 3), life(7, 3, 5), life(7, 6, 9), life(8, 1, 9), life(9, 2, 3), life(9, 8, 9), life(2, 4, 5)}
	l := made(t, h...)
	wantPages(t, "Free(4)", l.Free([]uint64{4}), 7, 9)
	tells(t, "Free(4)", l, heap{life(2, 4, 5), life(7, 3, 5), life(8, 1, 9)})
	l = made(t, h...)
	wantPages(t, "Free()", l.Free(nil), 2, 7, 8, 9)
	tells(t, "Free()", l, nil)
}

// Free: snapshots at both ends of lives, at the ends of all generations, and none that is in any.
func TestFreeEdges(t *testing.T) {
	h := heap{life(2, 0, 1), life(3, 0, greatest), life(4, 10, 20), life(5, 20, 30), life(6, greatest-1, greatest), life(65535, 1<<63, 1<<63+1)}
	for _, x := range []struct {
		snaps []uint64
		gone  []int
	}{
		{[]uint64{0}, []int{4, 5, 6, 65535}},
		{[]uint64{1}, []int{2, 4, 5, 6, 65535}},
		{[]uint64{9, 30}, []int{2, 4, 5, 6, 65535}},
		{[]uint64{10}, []int{2, 5, 6, 65535}},
		{[]uint64{19}, []int{2, 5, 6, 65535}},
		{[]uint64{20}, []int{2, 4, 6, 65535}},
		{[]uint64{29, 19}, []int{2, 6, 65535}},
		{[]uint64{1 << 63}, []int{2, 4, 5, 6}},
		{[]uint64{1<<63 + 1, 1<<63 - 1}, []int{2, 4, 5, 6, 65535}},
		{[]uint64{greatest - 1}, []int{2, 4, 5, 65535}},
		{[]uint64{greatest}, []int{2, 3, 4, 5, 6, 65535}},
		{[]uint64{greatest, 0, greatest - 1, 1 << 63, 20, 10}, nil},
		{[]uint64{}, []int{2, 3, 4, 5, 6, 65535}},
	} {
		asked := slices.Clone(h)
		l := made(t, h...)
		wantPages(t, "Free", l.Free(x.snaps), x.gone...)
		asked.free(x.snaps)
		tells(t, "Free", l, asked)
	}
}

// P10.1: lives put in by many orders, with others between that are freed again, make lists that tell the same, and go on alike.
func TestOrderOfPuts(t *testing.T) {
	r := dice(3)
	for seed := range 60 {
		h := r.thrown(2+seed, r.roll(1, 6), uint64(seed), 5)
		// All of these lives are needed by these snapshots; those that are put in between are not.
		var needed []uint64
		for _, x := range h {
			needed = append(needed, x.Died-1)
		}
		for road := range 8 {
			l := dead.New()
			for _, x := range mixed(&r, h) {
				if road%2 == 1 {
					between := life(r.roll(2, 65535), 1<<40, 1<<41)
					want(t, "Put between", l.Put(between), api.OK)
					wantPages(t, "Free between", l.Free(needed), between.Page)
				}
				want(t, "Put", l.Put(x), api.OK)
			}
			tells(t, "a road", l, h)
			asked, goesOn := slices.Clone(h), dice(seed)
			for range 10 {
				x := life(goesOn.roll(1, 10+seed), uint64(goesOn.roll(0, seed+20)), uint64(goesOn.roll(0, seed+20)))
				want(t, "Put, gone on", l.Put(x), asked.put(x))
			}
			frees(t, l, &asked, goesOn.snaps(2, 0, uint64(seed)+20))
			tells(t, "a road, gone on", l, asked)
		}
	}
}

// P10.2: Free takes out no life that a snapshot needs, and leaves none that none needs; Held of each snapshot is the same behind it.
func TestNothingIsLost(t *testing.T) {
	for seed := range 300 {
		r := dice(100 + seed)
		from := []uint64{0, 1, 1<<63 - 20, greatest - 100}[seed%4]
		h := r.thrown(r.roll(2, 65500), 12, from, 4)
		l := made(t, mixed(&r, h)...)
		snaps := r.snaps(r.roll(0, 8), from, from+30)
		var held [][]int
		for _, g := range snaps {
			held = append(held, l.Held(g))
		}
		told := l.Free(snaps)
		left, pages := l.Lives(), map[int]bool{}
		for _, x := range h {
			needed := slices.ContainsFunc(snaps, func(g uint64) bool { return there(x, g) })
			if slices.Contains(left, x) != needed {
				t.Fatalf("seed %d: Free(%d): %v, needed: %v", seed, snaps, x, needed)
			}
			if !needed {
				pages[x.Page] = true
			}
		}
		wantPages(t, "Free", told, keysOf(pages)...)
		for i, g := range snaps {
			wantPages(t, "Held behind Free", l.Held(g), held[i]...)
		}
	}
}

// P10.3: Free right behind tells nothing, in whatever order the snapshots are told; Free of no snapshots empties the list.
func TestFreeAgain(t *testing.T) {
	for seed := range 200 {
		r := dice(500 + seed)
		h := r.thrown(2, 10, 0, 6)
		l := made(t, mixed(&r, h)...)
		snaps := r.snaps(r.roll(0, 8), 0, 40)
		frees(t, l, &h, snaps)
		for _, again := range [][]uint64{snaps, mixed(&r, snaps), append(slices.Clone(snaps), snaps...)} {
			if pages := l.Free(again); len(pages) != 0 {
				t.Fatalf("seed %d: Free again: %v", seed, pages)
			}
			tells(t, "freed again", l, h)
		}
		pages := map[int]bool{}
		for _, x := range h {
			pages[x.Page] = true
		}
		wantPages(t, "Free of none", l.Free(nil), keysOf(pages)...)
		tells(t, "emptied", l, nil)
		wantPages(t, "Free of none again", l.Free([]uint64{}))
	}
}

// P10.4: what Free tells with more snapshots it tells with fewer of them, too.
func TestFewerSnapshots(t *testing.T) {
	for seed := range 300 {
		r := dice(900 + seed)
		h := r.thrown(2, 10, 0, 6)
		snaps := r.snaps(8, 0, 40)
		var fewer []int
		for count := range len(snaps) + 1 {
			pages := made(t, mixed(&r, h)...).Free(snaps[:count])
			for _, page := range pages {
				if count > 0 && !slices.Contains(fewer, page) {
					t.Fatalf("seed %d: Free(%d) tells %d, and not without the last one", seed, snaps[:count], page)
				}
			}
			fewer = pages
		}
	}
}

// Free: what it took out is not there any more: it can be put in again, and so can lives that met it.
func TestPutBehindFree(t *testing.T) {
	l := made(t, life(7, 3, 5), life(7, 5, 9), life(8, 1, 9))
	wantPages(t, "Free(6)", l.Free([]uint64{6}), 7)
	want(t, "Put of one that stays", l.Put(life(7, 5, 9)), api.ErrDeadTwo)
	want(t, "Put of one that meets it", l.Put(life(7, 4, 6)), api.ErrDeadTwo)
	want(t, "Put of what was freed", l.Put(life(7, 3, 5)), api.OK)
	wantPages(t, "Free(6) again", l.Free([]uint64{6}), 7)
	want(t, "Put of what met it", l.Put(life(7, 0, 4)), api.OK)
	tells(t, "put behind Free", l, heap{life(8, 1, 9), life(7, 5, 9), life(7, 0, 4)})
	wantPages(t, "Free()", l.Free(nil), 7, 8)
	want(t, "Put around all", l.Put(life(7, 0, greatest)), api.OK)
	tells(t, "put behind all", l, heap{life(7, 0, greatest)})
}

// All calls, thrown, against the model.
func TestModel(t *testing.T) {
	for seed := range 120 {
		r := dice(2000 + seed)
		from := []uint64{0, 5, 1<<32 - 12, 1<<63 - 12, greatest - 25}[seed%5]
		pages, l := []int{1, 3, 40}[seed%3], dead.New()
		var asked heap
		for range 600 {
			switch r.roll(0, 19) {
			case 0:
				frees(t, l, &asked, r.snaps(r.roll(0, 6), from, from+25))
			case 1:
				g := from + uint64(r.roll(0, 25))
				wantPages(t, "Held", l.Held(g), asked.held(g)...)
			default:
				born := from + uint64(r.roll(0, 24))
				x := life(r.roll(1, pages+1), born, born+uint64(r.roll(0, 3)))
				if r.roll(0, 30) == 0 {
					x.Born, x.Died = x.Died, x.Born
				}
				want(t, "Put", l.Put(x), asked.put(x))
			}
		}
		tells(t, "thrown calls", l, asked)
	}
}

// A life of each page that there may be, put in rising, falling and mixed.
func TestAllPages(t *testing.T) {
	var rising []api.Life
	for page := 2; page <= 65535; page++ {
		rising = append(rising, life(page, uint64(page), uint64(page)+2))
	}
	falling, r := slices.Clone(rising), dice(7)
	slices.Reverse(falling)
	for _, h := range [][]api.Life{rising, falling, mixed(&r, rising)} {
		l := made(t, h...)
		if !slices.Equal(l.Lives(), rising) || l.Count() != 65534 {
			t.Fatal("Lives of all pages are not all, or not in their order")
		}
		wantPages(t, "Held", l.Held(3000), 2999, 3000)
		pages := l.Free([]uint64{65536, 40000, 40000, 1, 2})
		if len(pages) != 65530 || pages[0] != 3 || pages[len(pages)-1] != 65534 || !slices.IsSorted(pages) {
			t.Errorf("Free tells %d pages", len(pages))
		}
		tells(t, "freed", l, heap{life(2, 2, 4), life(39999, 39999, 40001), life(40000, 40000, 40002), life(65535, 65535, 65537)})
	}
}

// Many lives of one page, and many snapshots.
func TestManyLivesAndSnapshots(t *testing.T) {
	const count = 20000
	var h heap
	for i := range uint64(count) {
		h = append(h, life(65535, 3*i, 3*i+2))
	}
	r := dice(8)
	l := made(t, mixed(&r, h)...)
	stands(t, "many lives", l, h)
	var snaps, between []uint64
	for i := range uint64(count) {
		if i%5 != 0 {
			snaps = append(snaps, 3*i+i%2)
		}
		between = append(between, 3*i+2)
	}
	wantPages(t, "Free of many", l.Free(append(mixed(&r, snaps), mixed(&r, between)...)), 65535)
	if l.Count() != count/5*4 {
		t.Errorf("Count: %d, want %d", l.Count(), count/5*4)
	}
	wantPages(t, "Held", l.Held(3), 65535)
	wantPages(t, "Held of what was freed", l.Held(15))
	wantPages(t, "Free of those between", l.Free(between), 65535)
	tells(t, "none needed", l, nil)
}
