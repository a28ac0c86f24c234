package btree_test

import (
	"fmt"
	"slices"
	"strings"
	"testing"

	"banyan/api"
)

// atMost is how many pages a call may need, of a tree so high.
func atMost(high int) int { return 8 * (high + 2) }

// full are trees by hand that are as full as they can be, and others.
func full(t *testing.T, size int) []wood {
	t.Helper()
	var trees []wood
	for i, kind := range []struct{ high, full int }{{0, 100}, {0, 0}, {1, 100}, {1, 0}, {2, 60}, {3, 0}, {5, 0}} {
		r := dice(size + i)
		f := &forest{dice: &r, size: size}
		if size == 512 || kind.high*kind.full <= 100 && kind.high < 4 {
			w, _ := f.wood(kind.high, kind.full)
			trees = append(trees, w)
		}
	}
	return trees
}

// Where 8 (High + 2) pages are left no call answers ErrFull; where fewer are, it may, and of the map nothing has changed.
func TestFull(t *testing.T) {
	for _, size := range sizes {
		t.Run(fmt.Sprint(size), func(t *testing.T) {
			t.Parallel()
			for i, w := range full(t, size) {
				runsOut(t, grown(t, size, 4000, w, true), dice(i))
			}
		})
	}
}

// runsOut does calls where just so many pages are left as are enough, and where fewer and fewer are.
func runsOut(t *testing.T, x *trial, r dice) {
	t.Helper()
	f := &forest{dice: &r, size: x.s.Size()}
	long := strings.Repeat("v", x.s.Size()/4)
	high, _ := x.b.High()
	others := fill(t, x.s, atMost(high))
	x.commit()
	keys := x.now.keys(from(""))
	for left := atMost(high); left >= 0; left-- {
		for range 1 + min(2, 200/len(keys)) {
			at := r.below(len(keys))
			hi := keys[min(len(keys)-1, at+r.below(20))]
			x.refusable(left, others, func() bool { return x.put(f.between(keys[at]), long) })
			x.refusable(left, others, func() bool { return x.put(keys[at], long) })
			x.refusable(left, others, func() bool { return x.del(keys[at]) })
			x.refusable(left, others, func() bool { return x.cut(span(keys[at], hi)) })
		}
		x.refusable(left, others, func() bool { return x.cut(from("")) })
		if left > 0 {
			others = append(others, fill(t, x.s, left-1)...)
			x.commit()
		}
	}
}

// refusable does a call that may be refused where so few are left, holds all against the map, and takes it back.
func (x *trial) refusable(left int, others []int, call func() bool) {
	x.t.Helper()
	if x.s.Left() != left {
		x.t.Fatalf("%d are left, not %d", x.s.Left(), left)
	}
	before := x.s.Live()
	root := x.s.Root()
	if !call() && (x.s.Root() != root || !slices.Equal(x.s.Live(), before) || x.s.Left() != left) {
		// trial.full has looked at whether it may be refused.
		x.t.Fatalf("what is refused changes something: %v were there, now %v", before, x.s.Live())
	}
	sound(x.t, "few are left", x.b, x.s, x.now, others...)
	x.abort()
}

// A device runs full of keys: what was put stays, what is refused is not there; and it can be emptied again.
func TestRunsFull(t *testing.T) {
	for _, size := range sizes {
		for _, blocks := range []int{18, 40, 64, 200, 500} {
			t.Run(fmt.Sprint(size, blocks), func(t *testing.T) {
				t.Parallel()
				for _, commits := range []int{1, 50, 1 << 30} {
					x := begun(t, size, blocks)
					x.run(dice(blocks+commits), commits)
					x.sound("full")
					tellsAll(t, "full", x.b, x.now)
					x.commit()
					x.emptied()
				}
			})
		}
	}
}

// run puts keys until some were refused, with a Commit behind each so many.
func (x *trial) run(r dice, commits int) {
	x.t.Helper()
	refused := 0
	for i := 0; refused < 5; i++ {
		if !x.put(fmt.Sprint(r.below(1<<20)), strings.Repeat("v", r.below(x.s.Size()/4+1))) {
			refused++
		}
		if i%commits == 0 {
			x.commit()
		}
	}
}

// emptied deletes all keys, one by one, with a Commit where one is refused.
func (x *trial) emptied() {
	x.t.Helper()
	for _, key := range x.now.keys(from("")) {
		if !x.del(key) {
			x.commit()
			if !x.del(key) {
				x.t.Fatalf("a full tree cannot be emptied: %d keys stay, %d pages are left", len(x.now), x.s.Left())
			}
		}
	}
	if l := x.sound("emptied"); l.high != 0 {
		x.t.Fatalf("High is %d of nothing", l.high)
	}
}

// Where nothing is left at all, what is told is told, and a Delete of what is not there is OK or refused.
func TestNothingLeft(t *testing.T) {
	x := grown(t, 512, 64, fork("c", twig("a", "b"), twig("c", "d")), true)
	others := fill(t, x.s, 0)
	x.commit()
	tellsAll(t, "nothing is left", x.b, x.now)
	for _, key := range []string{"a", "d", "x"} {
		x.refusable(0, others, func() bool { return x.put(key, "new") })
		x.refusable(0, others, func() bool { return x.del(key) })
		x.refusable(0, others, func() bool { return x.cut(from(key)) })
	}
	if n, err := x.b.DeleteRange(api.Range{}); n != 0 || err != nil {
		t.Errorf("DeleteRange of nothing: %d, %v", n, err)
	}
	want(t, "Drop", x.b.Drop(), nil)
	live(t, "Drop", x.s, others...)
}
