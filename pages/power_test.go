package pages_test

import (
	"fmt"
	"reflect"
	"strings"
	"testing"

	"banyan/api"
	"banyan/dev"
	"banyan/pages"
)

// look is all that a store tells, and its snapshots.
func look(t *testing.T, s *pages.Store) status {
	t.Helper()
	l := status{gen: s.Gen(), root: s.Root(), meta: string(s.Meta()), pages: map[int]leaf{}, snaps: map[string]status{}}
	for _, n := range s.Live() {
		kind, payload, err := s.Get(n)
		want(t, fmt.Sprint("Get of ", n), err, api.OK)
		l.pages[n] = leaf{kind: kind, payload: string(payload)}
	}
	for _, name := range s.Snaps() {
		old, err := s.At(name)
		want(t, "At", err, api.OK)
		l.snaps[name] = look(t, old)
	}
	return l
}

// seen is a state as look tells it.
func seen(s status) status {
	l := status{gen: s.gen, root: s.root, meta: s.meta, pages: map[int]leaf{}, snaps: map[string]status{}}
	for n, p := range s.pages {
		l.pages[n] = leaf{kind: p.kind, payload: p.payload}
	}
	for name, x := range s.snaps {
		l.snaps[name] = seen(x)
	}
	return l
}

// opened opens a device twice, and tells which of the states is found, both times.
func opened(t *testing.T, what string, d *dev.Dev, states ...status) int {
	t.Helper()
	first := -1
	for range 2 {
		s, found, err := pages.Open(d)
		want(t, what+": Open", err, api.OK)
		told := look(t, s)
		which := -1
		for i, asked := range states {
			if reflect.DeepEqual(told, seen(asked)) {
				which = i
			}
		}
		if which < 0 || first >= 0 && which != first {
			t.Fatalf("%s: found %v, none of the states that may be", what, told)
		}
		if asked := len(inUse(states[which])); found.Gen != told.gen || found.Used != asked || found.Spoilt > 1 {
			t.Fatalf("%s: found %v, %d in use", what, found, asked)
		}
		first = which
	}
	return first
}

// allFates are all fates of the blocks that are pending, or, if these are too many, some of them.
func allFates(r *dice, waits []api.Wait) [][]int {
	fates := [][]int{nil}
	for _, w := range waits {
		var longer [][]int
		for _, f := range fates {
			for fate := range w.Writes + 2 {
				longer = append(longer, append(append([]int{}, f...), fate))
			}
		}
		fates = longer
		if len(fates) > 300 {
			return thrownFates(r, waits, 6)
		}
	}
	return fates
}

// thrownFates are some fates; the first ones are all old, all new, all garbled.
func thrownFates(r *dice, waits []api.Wait, count int) [][]int {
	var fates [][]int
	for i := range count {
		var f []int
		for _, w := range waits {
			fate := r.roll(0, w.Writes+1)
			switch i {
			case 0:
				fate = 0
			case 1:
				fate = w.Writes
			case 2:
				fate = w.Writes + 1
			}
			f = append(f, fate)
		}
		fates = append(fates, f)
	}
	return fates
}

// scene is a store with a committed state, and changes that are not.
type scene func(t *testing.T) *trial

// scenes are some: small ones, one with snapshots, one with books of many blocks, a full one.
func scenes() map[string]scene {
	return map[string]scene{
		"nothing": func(t *testing.T) *trial { return begun(t, 512, 16) },
		"one page": func(t *testing.T) *trial {
			x := begun(t, 512, 32)
			n, _ := x.make(x.s, api.Leaf, "old")
			x.setRoot(n)
			x.commit(x.s)
			x.set(x.s, n, "new")
			x.setMeta(x.s, "meta")
			return x
		},
		"a snapshot": func(t *testing.T) *trial {
			x := begun(t, 512, 40)
			n, _ := x.make(x.s, api.Leaf, "old")
			x.setRoot(n)
			x.commit(x.s)
			x.snap(x.s, "s")
			x.set(x.s, n, "newer")
			x.commit(x.s)
			x.unsnap(x.s, "s")
			x.snap(x.s, "t")
			x.free(x.s, x.s.Root())
			return x
		},
		"a full one": func(t *testing.T) *trial {
			x := begun(t, 512, 64)
			for i := range 20 {
				x.make(x.s, api.Node, fmt.Sprint(i))
			}
			x.commit(x.s)
			x.snap(x.s, "s")
			for _, n := range x.now.live() {
				x.set(x.s, n, "full")
			}
			return x
		},
		"many": func(t *testing.T) *trial {
			x := rich(t, 512)
			for _, n := range x.now.live()[:9] {
				x.set(x.s, n, "other")
			}
			x.unsnap(x.s, "sixteen-letters3")
			x.setMeta(x.s, strings.Repeat("z", 72))
			return x
		},
	}
}

// P11.2: the power goes in each change of a Commit, done or not, with all fates of what waits: one state or the other; and behind that the store goes on.
func TestPower(t *testing.T) {
	for name, begin := range scenes() {
		for _, done := range []bool{false, true} {
			t.Run(fmt.Sprint(name, done), func(t *testing.T) {
				t.Parallel()
				r := dice(1)
				for when := 1; powerGoes(t, &r, begin, when, done); when++ {
				}
			})
		}
	}
}

// powerGoes lets the power go in a change of a Commit, and tells whether there was one.
func powerGoes(t *testing.T, r *dice, begin scene, when int, done bool) bool {
	t.Helper()
	x := begin(t)
	next := x.next()
	x.d.Arm(when, api.Stop, done)
	err := x.s.Commit()
	if err == api.OK {
		if when < 4 {
			t.Fatalf("a Commit of %d changes", when-1)
		}
		return false
	}
	want(t, "Commit", err, api.ErrDevOff)
	for _, fates := range allFates(r, x.d.Pending()) {
		d := x.d.Copy()
		d.Restart(fates)
		what := fmt.Sprint("the change ", when, ", done ", done, ", fates ", fates)
		which := opened(t, what, d, x.last, next)
		goesOn(t, what, d, []status{x.last, next}[which])
	}
	return true
}

// goesOn: a store that was opened behind a loss of power is changed and committed as ever.
func goesOn(t *testing.T, what string, d *dev.Dev, last status) {
	t.Helper()
	x := &trial{t: t, d: d, last: last}
	x.reopen()
	if live := x.now.live(); len(live) > 0 {
		x.free(x.s, live[0])
	}
	x.make(x.s, api.Other, "behind")
	x.commit(x.s)
	d.Restart(nil)
	opened(t, what+", committed anew", d, x.last)
}

// P11.2: without a Commit within, and behind one that answered OK, there is one state alone, whatever the fates.
func TestPowerBetween(t *testing.T) {
	r := dice(2)
	for name, begin := range scenes() {
		for _, committed := range []bool{false, true} {
			x := begin(t)
			if committed {
				x.commit(x.s)
			}
			for _, fates := range thrownFates(&r, x.d.Pending(), 20) {
				d := x.d.Copy()
				d.Restart(fates)
				opened(t, name, d, x.last)
			}
		}
	}
}

// P11.2: the device fails in each change of a Commit, done or not: opened anew at once, or behind a loss of power, there is one state or the other.
func TestFail(t *testing.T) {
	for name, begin := range scenes() {
		for _, done := range []bool{false, true} {
			t.Run(fmt.Sprint(name, done), func(t *testing.T) {
				t.Parallel()
				r := dice(3)
				for when := 1; fails(t, &r, begin, when, done); when++ {
				}
			})
		}
	}
}

// fails lets the device fail in a change of a Commit, and tells whether there was one.
func fails(t *testing.T, r *dice, begin scene, when int, done bool) bool {
	t.Helper()
	x := begin(t)
	next, left := x.next(), x.s.Left()
	x.d.Arm(when, api.Fail, done)
	err := x.s.Commit()
	if err == api.OK {
		return false
	}
	want(t, "Commit", err, api.ErrDevFail)
	what := fmt.Sprint("the change ", when, ", done ", done)
	// Nothing is changed but that it is sick.
	x.tellsBoth(what + ", sick")
	sick(t, x.s)
	x.tellsBoth(what + ", refused")
	if x.s.Left() != left {
		t.Fatalf("%s: Left %d, was %d", what, x.s.Left(), left)
	}
	d := x.d.Copy()
	which := opened(t, what, d, x.last, next)
	d.Restart(nil)
	if opened(t, what+", and the power went", d, x.last, next) != which {
		t.Fatalf("%s: another state behind a loss of power", what)
	}
	goesOn(t, what, d, []status{x.last, next}[which])
	for _, fates := range thrownFates(r, x.d.Pending(), 9) {
		d := x.d.Copy()
		d.Restart(fates)
		opened(t, what, d, x.last, next)
	}
	return true
}

// sick: a sick store refuses every change, ahead of all errors but that of a snapshot.
func sick(t *testing.T, s *pages.Store) {
	t.Helper()
	seen := []*pages.Store{s}
	if b, err := s.Beside(s.Root()); err == api.OK {
		seen = append(seen, b)
	} else {
		t.Fatalf("Beside of a sick store: %v", err)
	}
	for _, s := range seen {
		for _, n := range append(few(s.Live()), 0, -1) {
			to, err := s.Set(n, make([]byte, 600))
			if to != 0 || err != api.ErrPagesSick {
				t.Fatalf("Set of a sick store: %d, %v", to, err)
			}
			want(t, "Free of a sick store", s.Free(n), api.ErrPagesSick)
			want(t, "SetRoot of a sick store", s.SetRoot(n), api.ErrPagesSick)
		}
		for kind := api.PageKind(0); kind < 7; kind++ {
			n, err := s.New(kind, make([]byte, 600))
			if n != 0 || err != api.ErrPagesSick {
				t.Fatalf("New of a sick store: %d, %v", n, err)
			}
		}
		for _, name := range append(s.Snaps(), "new", "", "No") {
			want(t, "Snap of a sick store", s.Snap(name), api.ErrPagesSick)
			want(t, "Unsnap of a sick store", s.Unsnap(name), api.ErrPagesSick)
		}
		want(t, "SetMeta of a sick store", s.SetMeta(make([]byte, 5000)), api.ErrPagesSick)
		want(t, "Commit of a sick store", s.Commit(), api.ErrPagesSick)
		want(t, "Abort of a sick store", s.Abort(), api.ErrPagesSick)
		old, err := s.At("")
		want(t, "At of a sick store", err, api.OK)
		want(t, "Commit of its snapshot", old.Commit(), api.ErrPagesSnap)
		old.Left()
	}
}

// S4: a device that is off makes nothing sick by being read; the store is, when a Commit is refused.
func TestOff(t *testing.T) {
	x := begun(t, 512, 64)
	n, _ := x.make(x.s, api.Leaf, "a")
	x.commit(x.s)
	x.d.Arm(1, api.Stop, false)
	x.d.Barrier()
	_, _, err := x.s.Get(n)
	want(t, "Get", err, api.ErrDevOff)
	want(t, "SetMeta", x.s.SetMeta(nil), api.OK)
	want(t, "Commit", x.s.Commit(), api.ErrDevOff)
	want(t, "Commit again", x.s.Commit(), api.ErrPagesSick)
	if _, _, err := pages.Open(x.d); err != api.ErrDevOff {
		t.Errorf("Open: %v", err)
	}
	if s, err := pages.Format(x.d); s != nil || err != api.ErrDevOff {
		t.Errorf("Format: %v", err)
	}
	x.d.Restart(nil)
	x.reopen()
	x.holds("on again")
}

// P11.2, P11.5: thrown changes, Commits in which the power goes or the device fails, and losses of power between, one behind the other.
func TestPowerThrown(t *testing.T) {
	for seed := range 40 {
		r := dice(seed + 100)
		x := begun(t, one(&r, []int{512, 512, 1024, 4096}), r.roll(24, 120))
		for range 80 {
			for range r.roll(0, 8) {
				x.anything(&r)
			}
			x.shaken(&r, fmt.Sprint("seed ", seed))
		}
		x.commit(x.s)
		x.holds(fmt.Sprint("seed ", seed))
	}
}

// shaken commits a store, perhaps, while something befalls it, perhaps, and opens it anew.
func (x *trial) shaken(r *dice, what string) {
	x.t.Helper()
	next := x.next()
	states := []status{x.last}
	if r.roll(0, 4) > 0 {
		x.d.Arm(r.roll(0, 14), api.How(r.roll(0, 1)), r.roll(0, 1) == 1)
		states = []status{x.last, next}
		if err := x.s.Commit(); err == api.OK {
			states = []status{next}
		}
		x.d.Arm(0, api.Stop, false)
	}
	if r.roll(0, 2) > 0 || x.d.Off() {
		x.d.Restart(one(r, thrownFates(r, x.d.Pending(), 9)))
	}
	which := opened(x.t, what, x.d, states...)
	x.last = states[which]
	x.reopen()
}

// P11.5: behind Abort, and opened anew without a Commit, all is as it was committed.
func TestTakenBack(t *testing.T) {
	for name, begin := range scenes() {
		x := begin(t)
		left := x.s.Left()
		x.holds(name)
		x.abort(x.s)
		x.holds(name + ", taken back")
		if x.s.Left() < left {
			t.Errorf("%s: Left %d, was %d", name, x.s.Left(), left)
		}
		x.abort(x.s)
		x.holds(name + ", taken back twice")
		y := begin(t)
		y.reopen()
		y.holds(name + ", opened anew")
		if x.s.Left() != y.s.Left() {
			t.Errorf("%s: Left %d, opened anew %d", name, x.s.Left(), y.s.Left())
		}
	}
}

// P11.6: bits of a page that are turned, all within 64: Get of it tells an error, all other pages are as they were.
func TestSpoilt(t *testing.T) {
	x := begun(t, 512, 64)
	r := dice(6)
	for range 8 {
		x.make(x.s, api.PageKind(r.roll(2, 5)), r.text(480))
	}
	x.commit(x.s)
	x.snap(x.s, "s")
	for _, n := range x.now.live()[:4] {
		x.set(x.s, n, r.text(480))
	}
	x.commit(x.s)
	old, err := x.s.At("s")
	want(t, "At", err, api.OK)
	for n := range inUse(x.last) {
		for range 120 {
			turned := turn(t, x.d, &r, n)
			for m := range inUse(x.last) {
				spoiltOrNot(t, x.s, x.now, m, n)
				spoiltOrNot(t, old, x.now.snaps["s"], m, n)
			}
			for at, by := range turned {
				x.d.Flip(n, at, by)
			}
		}
	}
	x.holds("turned back")
	// Given another payload, it is as good as new.
	n := x.now.live()[0]
	turn(t, x.d, &r, n)
	to, _ := x.set(x.s, n, "whole again")
	tellsPage(t, "whole again", x.s, x.now, to)
}

// turn turns some bits of a block, one at least, all within 64 that stand one behind the other: which bytes, by what.
func turn(t *testing.T, d *dev.Dev, r *dice, n int) map[int]byte {
	t.Helper()
	turned := map[int]byte{}
	first := r.roll(0, 512*8-64)
	turned[first/8] |= 1 << (first % 8)
	for range r.roll(0, 40) {
		bit := first + r.roll(0, 63)
		turned[bit/8] |= 1 << (bit % 8)
	}
	for at, by := range turned {
		want(t, "Flip", d.Flip(n, at, by), api.OK)
	}
	return turned
}

// spoiltOrNot holds Get of a page against a state, of whose pages one is spoilt.
func spoiltOrNot(t *testing.T, s *pages.Store, asked status, n int, spoilt int) {
	t.Helper()
	if _, there := asked.pages[n]; n != spoilt || !there {
		tellsPage(t, "another page is spoilt", s, asked, n)
		return
	}
	kind, payload, err := s.Get(n)
	if err != api.ErrPageHead && err != api.ErrPageSum || kind != 0 || len(payload) > 0 {
		t.Fatalf("Get of the spoilt page %d: %v, %q, %v", n, kind, payload, err)
	}
}

// Open of a device of which anything was turned answers.
func TestOpenTurned(t *testing.T) {
	x := rich(t, 512)
	r := dice(8)
	for range 300 {
		d := x.d.Copy()
		for range r.roll(1, 3) {
			d.Flip(r.roll(0, 60), r.roll(0, 511), byte(r.roll(1, 255)))
		}
		s, found, err := pages.Open(d)
		if (err == api.OK) != (s != nil) || err != api.OK && (err != api.ErrPagesLost || found != (api.Found{})) {
			t.Fatalf("Open: %v, %v", found, err)
		}
	}
}
