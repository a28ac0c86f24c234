package bulk_test

import (
	"fmt"
	"math"
	"slices"
	"strings"
	"sync"
	"testing"

	"banyan/api"
	"banyan/btree"
	"banyan/dev"
	"banyan/merge"
	"banyan/pages"
)

// The chapter's examples.
func TestExamples(t *testing.T) {
	for _, m := range makers() {
		s, _ := format(t, 512, 100)
		tree := made(t, "nine", m, s, letters(9, 100), 100)
		if len(tree.leaves) != 3 || len(tree.pages) != 4 || tree.high != 1 {
			t.Errorf("%s: %d leaves, %d pages, High %d", m.name, len(tree.leaves), len(tree.pages), tree.high)
		}
		before := state(s)
		if n, err := m.make(s, merge.Of(letters(9, 100)), 100); n != 0 || err != error(api.ErrBulkThere) {
			t.Errorf("%s once more: %d, %v", m.name, n, err)
		}
		if state(s) != before {
			t.Errorf("%s once more: something is changed", m.name)
		}
	}
}

// Of no entries there is one leaf without any; of few, one leaf.
func TestOneLeaf(t *testing.T) {
	for _, size := range sizes {
		for _, m := range makers() {
			for n := range 4 {
				s, _ := format(t, size, 64)
				tree := made(t, "few", m, s, letters(n, 3), 50)
				if tree.high != 0 || len(tree.pages) != 1 {
					t.Errorf("size %d, %s of %d: High %d, %d pages", size, m.name, n, tree.high, len(tree.pages))
				}
				// A tree of one leaf is of both kinds.
				look(t, "few", s, api.Eager, s.Root())
				look(t, "few", s, api.Lazy, s.Root())
			}
		}
	}
}

// P15.1 to P15.3: thrown entries, at every size.
func TestThrown(t *testing.T) {
	for _, size := range sizes {
		for _, m := range makers() {
			t.Run(fmt.Sprint(m.name, size), func(t *testing.T) {
				t.Parallel()
				r := dice(size)
				for round := range 60 {
					s, _ := format(t, size, 1500)
					others := occupy(t, s, s.Left()-round%3)
					made(t, "thrown", m, s, r.rising(size, r.below(20*(round+1))), r.fill(), others...)
				}
			})
		}
	}
}

// Every number of leaves that few levels have: pages above them are full, have two children, or would have one alone.
func TestEachNumberOfLeaves(t *testing.T) {
	for _, size := range sizes {
		for _, m := range makers() {
			for _, long := range []bool{false, true} {
				t.Run(fmt.Sprint(m.name, size, long), func(t *testing.T) {
					t.Parallel()
					most := 0
					for n := 1; n <= 190; n++ {
						s, _ := format(t, size, 400)
						tree := made(t, "lonely", m, s, lonely(size, n, long), 50)
						if len(tree.leaves) != n {
							t.Fatalf("%d leaves, not %d", len(tree.leaves), n)
						}
						most = max(most, tree.high)
					}
					if long && most < 2 {
						t.Errorf("High is %d of 190 leaves", most)
					}
				})
			}
		}
	}
}

// Trees of many levels.
func TestHighTrees(t *testing.T) {
	for _, m := range makers() {
		for _, n := range []int{343, 344, 350, 2197, 2198, 2400, 2402, 5000} {
			s, _ := format(t, 512, 8000)
			tree := made(t, "high", m, s, lonely(512, n, true), 50)
			if m.kind == api.Lazy && n > 343 && tree.high < 4 {
				t.Errorf("High is %d of %d leaves", tree.high, n)
			}
		}
	}
}

// The pages above the leaves are as few as can be: of keys that are all as long as may be, each has as many children as it has room for.
func TestFewPages(t *testing.T) {
	for _, size := range sizes {
		for _, m := range makers() {
			room := size - 32
			if m.kind == api.Lazy {
				room /= 2
			}
			arms := (room + size/16) / (6 + size/16)
			for _, n := range []int{1, 2, arms, arms + 1, 3 * arms, 3*arms + 1, 3*arms + 2, arms * arms, arms*arms + 1} {
				s, _ := format(t, size, 400)
				tree := made(t, "few pages", m, s, lonely(size, min(n, 256), true), 50)
				want := 0
				for row := len(tree.leaves); row > 1; row = (row + arms - 1) / arms {
					want += (row + arms - 1) / arms
				}
				if got := len(tree.pages) - len(tree.leaves); got != want {
					t.Errorf("size %d, %s of %d leaves: %d pages above them, want %d", size, m.name, n, got, want)
				}
			}
		}
	}
}

// refusal holds what a call answers that is refused, and that nothing is changed.
func refusal(t *testing.T, what string, m maker, s *pages.Store, seq merge.Seq, fill int, want error) {
	t.Helper()
	before := state(s)
	if n, err := m.make(s, seq, fill); n != 0 || err != want {
		t.Errorf("%s: %s: %d, %v, want %v", what, m.name, n, err, want)
	}
	if state(s) != before {
		t.Errorf("%s: %s: something is changed", what, m.name)
	}
}

// sicken makes the device refuse a Commit.
func sicken(t *testing.T, d *dev.Dev, s *pages.Store) {
	t.Helper()
	d.Arm(1, api.Fail, false)
	if err := s.Commit(); err != api.ErrDevFail {
		t.Fatalf("Commit: %v", err)
	}
}

// What K2 and K3 refuse ahead of all entries, in its order; the telling is not ranged over then.
func TestRefused(t *testing.T) {
	for _, m := range makers() {
		w := &watched{list: []api.Entry{entry("", "")}}
		for _, seq := range []merge.Seq{w.seq, nil} {
			for _, fill := range []int{0, 50} {
				if n, err := m.make(nil, seq, fill); n != 0 || err != error(api.ErrArg) {
					t.Errorf("%s without a store: %d, %v", m.name, n, err)
				}
			}
		}
		empty, _ := format(t, 512, 64)
		there, _ := format(t, 512, 64)
		made(t, "there", m, there, letters(9, 100), 100)
		commit(t, there)
		sick, d := format(t, 512, 64)
		made(t, "sick", m, sick, letters(9, 100), 100)
		bare, e := format(t, 512, 64)
		sicken(t, d, sick)
		sicken(t, e, bare)
		full, _ := there.At("")
		none, _ := empty.At("")
		leafless, _ := there.At("")
		leafless, _ = leafless.Beside(0)
		for _, x := range []struct {
			what string
			s    *pages.Store
			want api.Errno
		}{
			{"a snapshot with a root", full, api.ErrPagesSnap}, {"a snapshot", none, api.ErrPagesSnap}, {"a snapshot seen without its root", leafless, api.ErrPagesSnap},
			{"a sick store with a root", sick, api.ErrPagesSick}, {"a sick store", bare, api.ErrPagesSick},
			{"a root", there, api.ErrBulkThere},
		} {
			refusal(t, x.what, m, x.s, w.seq, 50, x.want)
			refusal(t, x.what, m, x.s, w.seq, 100, x.want)
			for _, fill := range []int{49, 101, 0, -50, math.MaxInt, math.MinInt} {
				refusal(t, x.what+", a fill", m, x.s, w.seq, fill, api.ErrArg)
				refusal(t, "a fill", m, empty, w.seq, fill, api.ErrArg)
			}
			refusal(t, x.what+", no telling", m, x.s, nil, 50, api.ErrArg)
		}
		refusal(t, "no telling", m, empty, nil, 50, api.ErrArg)
		if w.begun != 0 {
			t.Errorf("%s: the telling was ranged over", m.name)
		}
	}
}

// Entries that may not be: the error of the first one, and nothing is changed; the telling is asked no further.
func TestFaults(t *testing.T) {
	for _, size := range sizes {
		for _, m := range makers() {
			s, _ := format(t, size, 400)
			occupy(t, s, 200)
			if err := s.Snap("a"); err != api.OK {
				t.Fatal(err)
			}
			commit(t, s)
			occupy(t, s, 190)
			for _, x := range []struct {
				e    api.Entry
				want api.Errno
			}{
				{entry("", ""), api.ErrLeafKey}, {entry(strings.Repeat("z", size/16+1), ""), api.ErrLeafKey}, {entry("", strings.Repeat("v", size/4+1)), api.ErrLeafKey},
				{entry("zz", strings.Repeat("v", size/4+1)), api.ErrLeafValue}, {entry("\x00", strings.Repeat("v", size/4+1)), api.ErrLeafValue},
				{entry("\x00", ""), api.ErrBulkOrder}, {entry("a", ""), api.ErrBulkOrder},
			} {
				for _, at := range []int{0, 1, 2, 3, 4, 5, 9, 26} {
					if at == 0 && x.want == api.ErrBulkOrder {
						continue
					}
					l := append(letters(at, size/4), x.e, entry("zzz", ""), entry("", ""), entry("a", ""))
					w := &watched{list: l}
					refusal(t, fmt.Sprintf("%x at %d", x.e.Key, at), m, s, w.seq, 60, x.want)
					if w.begun != 1 || w.asked != at+1 || w.over != 1 {
						t.Errorf("%s: at %d: ranged over %d times, asked for %d", m.name, at, w.begun, w.asked)
					}
				}
			}
			made(t, "behind what was refused", m, s, letters(26, size/4), 60, s.Live()...)
		}
	}
}

// The telling is ranged over once; what it told may be written over as soon as it is asked for more.
func TestRangedOverOnce(t *testing.T) {
	r := dice(3)
	for round := range 60 {
		for _, m := range makers() {
			s, _ := format(t, 512, 500)
			l := r.rising(512, r.below(20*(round+1)))
			w := &watched{list: l}
			if n, err := m.make(s, w.seq, r.fill()); n != len(l) || err != nil {
				t.Fatalf("%s: %d, %v", m.name, n, err)
			}
			if w.begun != 1 || w.asked != len(l)+1 || w.over != 1 {
				t.Errorf("%s of %d: ranged over %d times, asked for %d", m.name, len(l), w.begun, w.asked)
			}
			if got := shown(look(t, m.name, s, m.kind, s.Root()).entries); got != shown(l) {
				t.Fatalf("%s: the leaves have %s, want %s", m.name, got, shown(l))
			}
		}
	}
}

// ErrFull, where no page can be made any more: with each number of pages left that is too low, and with just as many as the tree has.
func TestFull(t *testing.T) {
	for _, size := range sizes {
		for _, m := range makers() {
			t.Run(fmt.Sprint(m.name, size), func(t *testing.T) {
				t.Parallel()
				r := dice(size)
				for _, l := range [][]api.Entry{nil, letters(3, 3), letters(9, size/4), lonely(size, 9, true), lonely(size, 61, true), r.rising(size, 120)} {
					s, _ := format(t, size, 300)
					need := len(made(t, "room enough", m, s, l, 50).pages)
					s, _ = format(t, size, 300)
					others := occupy(t, s, need+1)
					for left := need + 1; left >= 0; left-- {
						others = append(others, occupy(t, s, left)...)
						commit(t, s)
						if s.Left() != left {
							t.Fatalf("%d are left, not %d", s.Left(), left)
						}
						if left < need {
							refusal(t, fmt.Sprint("left ", left), m, s, merge.Of(l), 50, api.ErrFull)
							continue
						}
						made(t, fmt.Sprint("left ", left), m, s, l, 50, others...)
						if err := s.Abort(); err != api.OK {
							t.Fatal(err)
						}
					}
				}
			})
		}
	}
}

// Where an entry may not be, and there is no room either, it is one of both errors.
func TestFullAndFaulty(t *testing.T) {
	for _, m := range makers() {
		l := append(lonely(512, 40, true), entry("", ""))
		s, _ := format(t, 512, 100)
		for left := s.Left(); left >= 0; left-- {
			occupy(t, s, left)
			before := state(s)
			n, err := m.make(s, merge.Of(l), 50)
			if n != 0 || err != error(api.ErrLeafKey) && (err != error(api.ErrFull) || left > 2*40) || left > 2*40 && err != error(api.ErrLeafKey) {
				t.Errorf("%s, left %d: %d, %v", m.name, left, n, err)
			}
			if state(s) != before {
				t.Errorf("%s, left %d: something is changed", m.name, left)
			}
		}
	}
}

// A telling is left where there is no room for its entries.
func TestFullLeaves(t *testing.T) {
	for _, m := range makers() {
		s, _ := format(t, 512, 100)
		w := &watched{list: append(lonely(512, 500, false), entry("", ""))}
		refusal(t, "too many", m, s, w.seq, 50, api.ErrFull)
		if w.begun != 1 || w.over != 1 || w.asked > s.Left()+2 {
			t.Errorf("%s: ranged over %d times, asked for %d, where %d pages are left", m.name, w.begun, w.asked, s.Left())
		}
	}
}

// The device is full: what is refused leaves room for a smaller tree, again and again.
func TestAgainAndAgain(t *testing.T) {
	for _, m := range makers() {
		s, _ := format(t, 512, 64)
		for range 50 {
			refusal(t, "too many", m, s, merge.Of(lonely(512, 200, false)), 50, api.ErrFull)
			refusal(t, "faulty", m, s, merge.Of(append(lonely(512, 30, false), entry("", ""))), 50, api.ErrLeafKey)
		}
		tree := made(t, "again and again", m, s, lonely(512, 30, false), 50)
		for _, n := range tree.pages {
			s.Free(n)
		}
		made(t, "where one was", m, s, lonely(512, 31, false), 50)
	}
}

// A telling that panics is its owner's concern; but no page stays, and what it panics with is passed on.
func TestPanic(t *testing.T) {
	for _, m := range makers() {
		s, _ := format(t, 512, 200)
		before := state(s)
		func() {
			defer func() {
				if why := recover(); why != "mine" {
					t.Errorf("%s: recovered %v", m.name, why)
				}
			}()
			m.make(s, func(yield func([]byte, []byte) bool) {
				merge.Of(lonely(512, 40, true))(yield)
				panic("mine")
			}, 50)
		}()
		if state(s) != before {
			t.Errorf("%s: something is changed", m.name)
		}
	}
}

// P11.2: the tree lasts with the next Commit, not ahead of it.
func TestCommitted(t *testing.T) {
	for _, size := range sizes {
		for _, m := range makers() {
			s, d := format(t, size, 300)
			l := lonely(size, 100, true)
			made(t, "taken back", m, s, l, 50)
			if err := s.Abort(); err != api.OK || s.Root() != 0 || len(s.Live()) != 0 {
				t.Errorf("Abort: %v, the root is %d", err, s.Root())
			}
			made(t, "committed", m, s, l, 50)
			commit(t, s)
			d.Restart(nil)
			s, _, err := pages.Open(d)
			if err != api.OK {
				t.Fatal(err)
			}
			if got := shown(look(t, "opened anew", s, m.kind, s.Root()).entries); got != shown(l) {
				t.Errorf("size %d, %s, opened anew: %s", size, m.name, got)
			}
		}
	}
}

// A tree beside another one, of whose entries it is made, in the same store.
func TestBeside(t *testing.T) {
	for _, m := range makers() {
		for _, committed := range []bool{false, true} {
			s, _ := format(t, 512, 900)
			l := lonely(512, 200, true)
			other := made(t, "the other one", makers()[0], s, l, 50)
			if committed {
				commit(t, s)
			}
			root := s.Root()
			b, err := btree.Open(s)
			if err != api.OK {
				t.Fatal(err)
			}
			x, err := s.Beside(0)
			if err != api.OK {
				t.Fatal(err)
			}
			wrong := error(api.ErrArg)
			if n, err := m.make(x, b.Scan(api.Range{All: true}, &wrong), 100); n != len(l) || err != nil || wrong != nil {
				t.Fatalf("%s: %d, %v, %v", m.name, n, err, wrong)
			}
			if s.Root() != root || x.Root() == root {
				t.Errorf("%s: the roots are %d and %d", m.name, s.Root(), x.Root())
			}
			tree := look(t, "beside", x, m.kind, x.Root())
			if shown(tree.entries) != shown(l) || shown(look(t, "the other one", s, api.Eager, root).entries) != shown(l) {
				t.Errorf("%s: the trees tell otherwise", m.name)
			}
			if all := slices.Sorted(slices.Values(slices.Concat(tree.pages, other.pages))); !slices.Equal(all, s.Live()) {
				t.Errorf("%s: the pages of both are %v, there are %v", m.name, all, s.Live())
			}
			refusal(t, "there is one beside", m, x, merge.Of(l), 100, api.ErrBulkThere)
		}
	}
}

// P15.4: of the same entries both make trees that tell the same, from leaves that are alike.
func TestAlike(t *testing.T) {
	r := dice(9)
	for range 60 {
		l, fill := r.rising(512, 300), r.fill()
		var told []*looked
		for _, m := range makers() {
			s, _ := format(t, 512, 700)
			told = append(told, made(t, "alike", m, s, l, fill))
		}
		if shown(told[0].entries) != shown(told[1].entries) || !slices.Equal(told[0].leaves, told[1].leaves) {
			t.Fatal("Eager and Lazy tell otherwise")
		}
	}
}

// P4: the same calls, on stores that are alike, come to the same pages, by one hand or many at once.
func TestManyHands(t *testing.T) {
	for _, m := range makers() {
		r := dice(7)
		l := r.rising(512, 400)
		said := make([]string, 8)
		var hands sync.WaitGroup
		for hand := range said {
			s, _ := format(t, 512, 900)
			hands.Go(func() {
				m.make(s, merge.Of(append(slices.Clone(l), entry("", ""))), 70)
				m.make(s, merge.Of(l), 70)
				said[hand] = state(s)
			})
		}
		hands.Wait()
		for _, one := range said {
			if one != said[0] || one == "" {
				t.Errorf("%s: one of many hands comes to other pages", m.name)
			}
		}
	}
}
