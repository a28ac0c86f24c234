package betree_test

import (
	"fmt"
	"strings"
	"testing"

	"banyan/api"
)

// atMost is how many pages a call may need, of a tree so high.
func atMost(high int) int { return 8 * (high + 2) }

// P17.3: where 8 (High + 2) pages are left no call answers ErrFull; where fewer are, it may, and of the map nothing has changed.
func TestFull(t *testing.T) {
	for _, size := range sizes {
		for i, kind := range []struct{ high, full int }{{0, 100}, {0, 0}, {1, 100}, {1, 0}, {2, 60}, {2, 0}, {3, 0}, {5, 0}} {
			if size > 512 && (kind.high*kind.full > 100 || kind.high > 3) {
				continue
			}
			t.Run(fmt.Sprint(size, i), func(t *testing.T) {
				t.Parallel()
				r := dice(size + i)
				f := &forest{dice: &r, size: size}
				runsOut(t, grown(t, size, 6000, f.tree(kind.high, kind.full), policies()[i%len(policies())], true), f)
			})
		}
	}
}

// Trees that this layer's calls have made are no harder to change.
func TestOwnFull(t *testing.T) {
	for _, size := range sizes[:2] {
		for i, p := range policies() {
			t.Run(fmt.Sprint(size, i), func(t *testing.T) {
				t.Parallel()
				r := dice(size + i)
				x := begun(t, size, 4000, p)
				for range 700 {
					x.thrown(&r, 60)
				}
				x.commit()
				runsOut(t, x, &forest{dice: &r, size: size})
			})
		}
	}
}

// runsOut does calls where just so many pages are left as are enough, and where fewer and fewer are.
func runsOut(t *testing.T, x *trial, f *forest) {
	t.Helper()
	long := strings.Repeat("v", x.s.Size()/4)
	high, _ := x.b.High()
	x.fill(atMost(high))
	x.commit()
	keys := x.now.keys(from(""))
	if len(keys) == 0 {
		keys = []string{"key"}
	}
	step := 1 + len(x.s.Live())/100
	for left := atMost(high); left >= 0; left -= step {
		for range 1 + min(2, 200/len(keys)) {
			at := f.below(len(keys))
			hi := keys[min(len(keys)-1, at+f.below(20))]
			x.refusable(left, func() bool { return x.put(f.between(keys[at]), long) })
			x.refusable(left, func() bool { return x.put(keys[at], long) })
			x.refusable(left, func() bool { return x.del(keys[at]) })
			x.refusable(left, func() bool { return x.cut(span(keys[at], hi)) })
			x.refusable(left, func() bool { return x.cut(span(keys[at], f.between(hi))) })
		}
		x.refusable(left, func() bool { return x.flush() })
		x.refusable(left, func() bool { return x.cut(from("")) })
		x.refusable(left, func() bool {
			for range 20 {
				if !x.put(f.between(one(f.dice, keys)), long) || !x.del(one(f.dice, keys)) {
					return false
				}
			}
			return true
		})
		x.fill(max(0, left-step))
		x.commit()
	}
}

// refusable does calls that may be refused where so few are left, holds all against the map, and takes it back. (trial.full looks at whether they may be refused.)
func (x *trial) refusable(left int, call func() bool) {
	x.t.Helper()
	if x.s.Left() != left {
		x.t.Fatalf("%d are left, not %d", x.s.Left(), left)
	}
	call()
	x.sound("few are left")
	tells(x.t, "few are left", x.b, x.now, from(""))
	x.abort()
}

// A device runs full of keys: what was put stays, what is refused is not there; and it can be emptied again.
func TestRunsFull(t *testing.T) {
	for _, size := range sizes {
		for _, blocks := range []int{18, 40, 64, 200, 500} {
			if blocks*size > 400*512 {
				continue
			}
			t.Run(fmt.Sprint(size, blocks), func(t *testing.T) {
				t.Parallel()
				for i, commits := range []int{1, 50, 1 << 30} {
					x := begun(t, size, blocks, policies()[i])
					x.run(dice(blocks+commits), commits)
					x.sound("full")
					tellsAll(t, "full", x.b, x.now)
					x.commit()
					x.emptied()
				}
			})
		}
	}
}

// run puts keys until some were refused, with a Commit behind each so many.
func (x *trial) run(r dice, commits int) {
	x.t.Helper()
	refused := 0
	for i := 0; refused < 5; i++ {
		if !x.put(fmt.Sprint(r.below(1<<20)), strings.Repeat("v", r.below(x.s.Size()/4+1))) {
			refused++
		}
		if i%commits == 0 {
			x.commit()
		}
	}
}

// emptied takes all keys away, one by one, with a Commit where one is refused; at last all at once.
func (x *trial) emptied() {
	x.t.Helper()
	keys := x.now.keys(from(""))
	for i, key := range keys {
		for tries := 0; !x.del(key); tries++ {
			if tries == 5 {
				x.t.Fatalf("a full tree cannot be emptied: %d of %d keys stay, %d pages are left", len(x.now), len(keys), x.s.Left())
			}
			x.commit()
		}
		if i%50 == 0 {
			x.sound("emptied")
		}
	}
	x.sound("emptied")
	x.commit()
	if !x.cut(from("")) {
		x.t.Fatalf("a full tree cannot be emptied: %d keys stay, %d pages are left", len(x.now), x.s.Left())
	}
	if l := x.sound("emptied"); l.high != 0 || len(l.pages) != 1 {
		x.t.Fatalf("High is %d of nothing, there are %v", l.high, l.pages)
	}
}

// P17.3: a Flush goes by small steps also where nodes would have to be joined whose messages have no room beside one another, till those for very many leaves are done.
func TestFlushBySmallSteps(t *testing.T) {
	many, puts := wood{}, ""
	for i := range 110 {
		key := fmt.Sprintf("c%03d", i)
		if i > 0 {
			many.keys = append(many.keys, key)
		}
		many.below = append(many.below, wood{leaf: []api.Entry{entry(key, strings.Repeat("v", 1024))}})
		puts += fmt.Sprintf(" %d+%sx=", 10+i, key)
	}
	x := fork("c", fork("b", twig("a"), twig("b")), many).with("1-a 2-b" + puts)
	y := fork("t", fork("n", twig("m"), twig("n")), fork("v", twig("t"), twig("v")))
	y = y.with("1+mm=" + strings.Repeat("w", 950) + " 2+nn=" + strings.Repeat("w", 950))
	for i, p := range policies() {
		x := grown(t, 4096, 300, fork("m", x, y), p, false)
		if l := x.sound("by hand"); l.high != 3 {
			t.Fatalf("High is %d", l.high)
		}
		x.fill(atMost(3))
		if !x.flush() {
			t.Errorf("%d: refused", i)
		}
		x.sound("flushed")
		tellsAll(t, "flushed", x.b, x.now)
	}
}

// Where nothing is left at all, what is told is told, and a vain DeleteRange and a Drop are done.
func TestNothingLeft(t *testing.T) {
	x := grown(t, 512, 64, fork("c", twig("a", "b"), twig("c", "d")).with("5-a 7+z=z"), greedy(), true)
	x.fill(0)
	x.commit()
	tellsAll(t, "nothing is left", x.b, x.now)
	for _, key := range []string{"a", "d", "x"} {
		x.refusable(0, func() bool { return x.put(key, "new") })
		x.refusable(0, func() bool { return x.del(key) })
		x.refusable(0, func() bool { return x.cut(from(key)) })
		x.refusable(0, func() bool { return x.flush() })
	}
	want(t, "DeleteRange of nothing", x.b.DeleteRange(api.Range{}), nil)
	want(t, "Drop", x.b.Drop(), nil)
	live(t, "Drop", x.s, x.others...)
}

// What DOC.md's T2 says of devices: of at least 64 + 8 m blocks, m being how many changes there were, none is full, whatever Commits stand between.
func TestNeverFull(t *testing.T) {
	for _, size := range sizes {
		for i, p := range policies() {
			t.Run(fmt.Sprint(size, i), func(t *testing.T) {
				t.Parallel()
				for _, m := range []int{1, 8, 30, 100, 300} {
					r := dice(m + i)
					x := begun(t, size, 64+8*m, p)
					for n := range m {
						done := true
						switch {
						case r.below(10) == 0:
							done = x.cut(r.span(size))
						case r.below(4) == 0:
							done = x.del(x.near(&r))
						default:
							done = x.put(r.key(size), strings.Repeat("v", size/4))
						}
						if !done {
							t.Fatalf("the change %d of %d is refused", n, m)
						}
						if r.below(3) == 0 {
							x.commit()
						}
					}
					x.sound("never full")
				}
			})
		}
	}
}
