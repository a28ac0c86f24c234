package dead_test

import (
	"slices"
	"sort"
	"testing"

	"banyan/api"
	"banyan/dead"
)

// greatest is the greatest generation that there is.
const greatest = 1<<64 - 1

// life is one, told short.
func life(page int, born uint64, died uint64) api.Life {
	return api.Life{Page: page, Born: born, Died: died}
}

// there tells whether the page of a life was there in a generation, by the chapter's words.
func there(x api.Life, g uint64) bool { return g >= x.Born && g < x.Died }

// meet tells whether there is a generation in which both were there: if there is one, the first of the later one is.
func meet(a, b api.Life) bool {
	return a.Page == b.Page && (there(a, b.Born) || there(b, a.Born))
}

// heap is a list as the chapter's words tell it: lives in whatever order they came.
type heap []api.Life

func (h *heap) put(x api.Life) api.Errno {
	if x.Page < 2 || x.Page > 65535 || x.Died <= x.Born {
		return api.ErrDeadSpan
	}
	for _, y := range *h {
		if meet(x, y) {
			return api.ErrDeadTwo
		}
	}
	*h = append(*h, x)
	return api.OK
}

func (h *heap) free(snaps []uint64) []int {
	gone := map[int]bool{}
	var left heap
	for _, x := range *h {
		if slices.ContainsFunc(snaps, func(g uint64) bool { return there(x, g) }) {
			left = append(left, x)
		} else {
			gone[x.Page] = true
		}
	}
	*h = left
	return keysOf(gone)
}

func (h heap) held(snap uint64) []int {
	pages := map[int]bool{}
	for _, x := range h {
		if there(x, snap) {
			pages[x.Page] = true
		}
	}
	return keysOf(pages)
}

// inOrder is the lives by rising Page, then by rising Born.
func (h heap) inOrder() []api.Life {
	list := slices.Clone(h)
	sort.Slice(list, func(i, j int) bool {
		if list[i].Page != list[j].Page {
			return list[i].Page < list[j].Page
		}
		return list[i].Born < list[j].Born
	})
	return list
}

// edges are the generations in which something comes or goes, and those beside them.
func (h heap) edges() []uint64 {
	all := map[uint64]bool{0: true, 1: true, greatest: true, greatest - 1: true}
	for _, x := range h {
		for _, g := range []uint64{x.Born, x.Died} {
			all[g-1], all[g], all[g+1] = true, true, true
		}
	}
	var list []uint64
	for g := range all {
		list = append(list, g)
	}
	slices.Sort(list)
	return list
}

// keysOf are the keys of a map, rising.
func keysOf(m map[int]bool) []int {
	var list []int
	for n := range m {
		list = append(list, n)
	}
	slices.Sort(list)
	return list
}

// made is a list with these lives, put in one behind the other.
func made(t *testing.T, lives ...api.Life) *dead.List {
	t.Helper()
	l := dead.New()
	if l == nil {
		t.Fatal("New: no list")
	}
	for _, x := range lives {
		if err := l.Put(x); err != api.OK {
			t.Fatalf("Put(%v) into %.200v: %v", x, l.Lives(), err)
		}
	}
	return l
}

// want holds an answered number against the one that is asked.
func want(t *testing.T, what string, got api.Errno, asked api.Errno) {
	t.Helper()
	if got != asked {
		t.Errorf("%s: %v, want %v", what, got, asked)
	}
}

// wantPages holds answered pages against those that are asked.
func wantPages(t *testing.T, what string, got []int, asked ...int) {
	t.Helper()
	if !slices.Equal(got, asked) {
		t.Errorf("%s: %.200v, want %.200v", what, got, asked)
	}
}

// stands holds the lives that a list has against a heap.
func stands(t *testing.T, what string, l *dead.List, asked heap) {
	t.Helper()
	if l.Count() != len(asked) {
		t.Fatalf("%s: Count %d, want %d", what, l.Count(), len(asked))
	}
	if lives := l.Lives(); !slices.Equal(lives, asked.inOrder()) {
		t.Fatalf("%s: Lives %.200v, want %.200v", what, lives, asked.inOrder())
	}
}

// tells holds all that a list tells, and changes nothing, against a heap.
func tells(t *testing.T, what string, l *dead.List, asked heap) {
	t.Helper()
	stands(t, what, l, asked)
	for _, g := range asked.edges() {
		if pages := l.Held(g); !slices.Equal(pages, asked.held(g)) {
			t.Fatalf("%s: Held(%d) of %.200v: %v, want %v", what, g, l.Lives(), pages, asked.held(g))
		}
	}
}

// frees holds Free against the model, and the list behind it.
func frees(t *testing.T, l *dead.List, asked *heap, snaps []uint64) {
	t.Helper()
	ahead := l.Lives()
	pages, askedPages := l.Free(snaps), asked.free(snaps)
	if !slices.Equal(pages, askedPages) {
		t.Fatalf("Free(%d) of %.200v: %v, want %v", snaps, ahead, pages, askedPages)
	}
	stands(t, "Free", l, *asked)
}

// spans are all lives of a page that come from a generation on, and have gone by another one.
func spans(page int, from uint64, to uint64) []api.Life {
	var list []api.Life
	for born := from; born < to; born++ {
		for long := range to - born {
			list = append(list, life(page, born, born+long+1))
		}
	}
	return list
}

// allLists are all sets of lives, out of these, of which no two meet.
func allLists(of []api.Life) []heap {
	lists := []heap{nil}
	for _, x := range of {
		for _, h := range lists {
			if !slices.ContainsFunc(h, func(y api.Life) bool { return meet(x, y) }) {
				lists = append(lists, append(slices.Clone(h), x))
			}
		}
	}
	return lists
}

// someOf are the snapshots of the generations whose bits are set.
func someOf(bits int) []uint64 {
	var snaps []uint64
	for g := range 64 {
		if bits>>g&1 == 1 {
			snaps = append(snaps, uint64(g))
		}
	}
	return snaps
}

// dice is a row of numbers that is the same in every run.
type dice uint64

// roll is a number from lo to hi.
func (d *dice) roll(lo int, hi int) int {
	*d = *d*6364136223846793005 + 1442695040888963407
	return lo + int(uint64(*d)>>33)%(hi-lo+1)
}

// mixed is a list in another order.
func mixed[T any](d *dice, list []T) []T {
	list = slices.Clone(list)
	for i := range list {
		j := d.roll(i, len(list)-1)
		list[i], list[j] = list[j], list[i]
	}
	return list
}

// thrown are lives of which no two meet, of pages from least on, of generations from first on.
func (d *dice) thrown(least int, pages int, first uint64, long int) heap {
	var h heap
	for page := least; page < least+pages; page++ {
		g := first
		for range d.roll(0, 4) {
			g += uint64(d.roll(0, 1) * d.roll(1, long))
			died := g + uint64(d.roll(1, long))
			h = append(h, life(page, g, died))
			g = died
		}
	}
	return h
}

// snaps are thrown generations, some of them told more than once.
func (d *dice) snaps(count int, from uint64, to uint64) []uint64 {
	var list []uint64
	for range count {
		g := from + uint64(d.roll(0, int(to-from)))
		for range d.roll(1, 2) {
			list = append(list, g)
		}
	}
	return mixed(d, list)
}
