package btree_test

import (
	"errors"
	"fmt"
	"slices"
	"strings"
	"testing"

	"banyan/api"
	"banyan/branch"
	"banyan/btree"
	"banyan/pages"
)

// way is the pages from the root down to the leaf of a key.
func way(t *testing.T, s *pages.Store, key string) []int {
	t.Helper()
	numbers := []int{s.Root()}
	for {
		kind, payload, err := s.Get(numbers[len(numbers)-1])
		if err != api.OK {
			t.Fatalf("Get: %v", err)
		}
		if kind == api.Leaf {
			return numbers
		}
		k, err := branch.Decode(s.Size(), payload)
		if err != api.OK {
			t.Fatalf("Decode: %v", err)
		}
		numbers = append(numbers, k.Pages[branch.Child(k, []byte(key))])
	}
}

// spoil turns some bits within 64 that stand one behind the other in a block, and tells how to turn them back.
func (x *trial) spoil(r *dice, n int) (back func()) {
	x.t.Helper()
	from := r.below(8*x.s.Size() - 63)
	bits := map[int]byte{}
	for range 1 + r.below(64) {
		at := from + r.below(64)
		bits[at/8] |= 1 << (7 - at%8)
	}
	flip := func() {
		for at, by := range bits {
			if err := x.d.Flip(n, at, by); err != api.OK {
				x.t.Fatalf("Flip: %v", err)
			}
		}
	}
	flip()
	return flip
}

// P14.5: whichever page of a tree is turned: Get of each key answers as ahead, or names the page; Scan tells what it told, up to an error that names it.
func TestTurned(t *testing.T) {
	for _, size := range sizes {
		t.Run(fmt.Sprint(size), func(t *testing.T) {
			t.Parallel()
			f := &forest{dice: new(dice), size: size}
			for high := range 4 {
				w, _ := f.wood(high, []int{30, 15, 5, 0}[high])
				x := grown(t, size, 4000, w, true)
				pages, ways := x.sound("grown").pages, x.ways()
				for i := range min(40, len(pages)) {
					n := pages[(i*31+len(pages)/2)%len(pages)]
					back := x.spoil(f.dice, n)
					x.turned(n, ways)
					back()
				}
				tellsAll(t, "turned back", x.b, x.now)
			}
		})
	}
}

// ways are those of all keys.
func (x *trial) ways() map[string][]int {
	x.t.Helper()
	all := map[string][]int{}
	for key := range x.now {
		all[key] = way(x.t, x.s, key)
	}
	return all
}

// turned holds what a tree tells of which a page was turned.
func (x *trial) turned(n int, ways map[string][]int) {
	x.t.Helper()
	_, _, why := x.s.Get(n)
	for key, numbers := range ways {
		value, there, err := x.b.Get([]byte(key))
		if !slices.Contains(numbers, n) {
			if string(value) != x.now[key] || !there || err != nil {
				x.t.Fatalf("Get of %x, beside what is turned: %x, %v, %v", key, value, there, err)
			}
			continue
		}
		if value != nil || there || !lost(err, n, why) || why == api.OK {
			x.t.Fatalf("Get of %x: %x, %v, %v, want an error in the page %d", key, value, there, err, n)
		}
	}
	told, err := told(x.b, from(""))
	if all := x.now.show(from("")); !strings.HasPrefix(all, told) || !lost(err, n, why) {
		x.t.Fatalf("Scan: %s, %v, want a beginning of %s, and an error in the page %d", told, err, all, n)
	}
}

// Whatever one bit of a small tree is turned: no wrong entry is told.
func TestEachBit(t *testing.T) {
	x := grown(t, 512, 64, fork("c e", twig("a", "b"), twig("c", "d"), twig("e")), true)
	ways := x.ways()
	for _, n := range x.s.Live() {
		for bit := range 512 * 8 {
			x.d.Flip(n, bit/8, 1<<(bit%8))
			x.turned(n, ways)
			x.d.Flip(n, bit/8, 1<<(bit%8))
		}
	}
}

// Changes that come to a page that cannot be read name it, and once it can be read and all is taken back, the tree is as it was.
func TestChangesOfTurned(t *testing.T) {
	f := &forest{dice: new(dice), size: 512}
	for high := range 3 {
		w, _ := f.wood(high, 10)
		x := grown(t, 512, 4000, w, true)
		keys := x.now.keys(from(""))
		for range 100 {
			key := one(f.dice, keys)
			numbers := way(t, x.s, key)
			n := one(f.dice, numbers)
			back := x.spoil(f.dice, n)
			_, _, why := x.s.Get(n)
			for name, call := range calls(x.b, []byte(key), []byte("new")) {
				switch name {
				case "Scan of none", "DeleteRange of none", "High":
					continue
				}
				if err, zero := call(); !lost(err, n, why) || !zero {
					t.Fatalf("%s of %x: %v, else nothing: %v, want an error in the page %d", name, key, err, zero, n)
				}
			}
			back()
			x.abort()
			x.sound("taken back")
		}
		tellsAll(t, "taken back", x.b, x.now)
	}
}

// The device refuses to read: whoever comes to a page names it.
func TestPowerIsOff(t *testing.T) {
	x := grown(t, 512, 64, fork("c", twig("a", "b"), twig("c", "d")), true)
	root := x.s.Root()
	x.d.Arm(1, api.Stop, false)
	x.d.Barrier()
	for name, call := range calls(x.b, []byte("a"), []byte("new")) {
		if name == "DeleteRange of none" || name == "Scan of none" {
			continue
		}
		if err, zero := call(); !lost(err, root, api.ErrDevOff) || !zero {
			t.Errorf("%s: %v, else nothing: %v", name, err, zero)
		}
	}
	x.reopen()
	tellsAll(t, "the power is back", x.b, x.now)
}

// fault is a tree by hand with a page that is not as it must be: the how manyth it is from the root on, and what is said of it.
type fault struct {
	name string
	wood wood
	at   int
	why  api.Errno
	key  string // one that leads to it
	told string // the keys ahead of it that Scan tells
}

func faults() []fault {
	fine := twig("m", "n")
	number := func(n int) wood { return wood{number: n, isNumber: true} }
	return []fault{
		{"a root of another kind", other(api.Node, ""), 0, api.ErrTreeKind, "a", ""},
		{"a root of another kind", other(api.Other, "\x00\x00"), 0, api.ErrTreeKind, "a", ""},
		{"a child of another kind", fork("m", twig("a"), other(api.Node, "\x00\x00")), 2, api.ErrTreeKind, "m", "a"},
		{"a child of another kind", fork("m", other(api.Other, ""), fine), 1, api.ErrTreeKind, "a", ""},
		{"a root of no form", other(api.Leaf, ""), 0, api.ErrLeafForm, "a", ""},
		{"a root of no form", other(api.Branch, "\x00\x00"), 0, api.ErrBranchForm, "a", ""},
		{"a leaf of no form", fork("m", twig("a", "b"), other(api.Leaf, "\x00\x01")), 2, api.ErrLeafForm, "z", "a b"},
		{"a leaf with a byte too many", fork("m", other(api.Leaf, "\x00\x00\x00"), fine), 1, api.ErrLeafForm, "l", ""},
		{"a branch of no form", fork("m", fork("c", twig("a"), twig("c")), other(api.Branch, "\x00\x02")), 4, api.ErrBranchForm, "m", "a c"},
		{"a branch of one child", fork("m", other(api.Branch, "\x00\x01\x00\x00\x00\x02"), fine), 1, api.ErrBranchForm, "a", ""},
		{"an empty leaf, the first one", fork("m", twig(), fine), 1, api.ErrTreeShape, "a", ""},
		{"an empty leaf, the last one", fork("m", twig("a"), twig()), 2, api.ErrTreeShape, "m", "a"},
		{"an empty leaf between", fork("b m", twig("a"), twig(), fine), 2, api.ErrTreeShape, "c", "a"},
		{"a leaf's key below its Span", fork("m", twig("a"), twig("b", "n")), 2, api.ErrTreeShape, "n", "a"},
		{"a leaf's key at the end of its Span", fork("m", twig("a", "m"), twig("n")), 1, api.ErrTreeShape, "a", ""},
		{"a leaf's key above its Span", fork("m p", twig("a"), twig("m", "q"), twig("r")), 2, api.ErrTreeShape, "m", "a"},
		{"a leaf's keys, all above its Span", fork("m p", twig("a"), twig("x"), twig("y")), 2, api.ErrTreeShape, "n", "a"},
		{"a leaf's keys, all below its Span", fork("m p", twig("a"), twig("l"), twig("y")), 2, api.ErrTreeShape, "n", "a"},
		{"a leaf's key above a Span further up", fork("m", fork("c", twig("a"), twig("c", "n")), fork("t", fine, twig("t"))), 3, api.ErrTreeShape, "c", "a"},
		{"a leaf's key below a Span further up", fork("m", fork("c", twig("a"), twig("c")), fork("t", twig("l", "n"), twig("t"))), 5, api.ErrTreeShape, "m", "a c"},
		{"a branch's key below its Span", fork("m", fork("c", twig("a"), twig("c")), fork("f", twig("n"), twig("t"))), 4, api.ErrTreeShape, "n", "a c"},
		{"a branch's key at the least key of its Span", fork("m", fork("c", twig("a"), twig("c")), fork("m", twig("n"), twig("t"))), 4, api.ErrTreeShape, "n", "a c"},
		{"a branch's key at the end of its Span", fork("m", fork("m", twig("a"), twig("l")), fork("t", fine, twig("t"))), 1, api.ErrTreeShape, "a", ""},
		{"a branch's last key above its Span", fork("m", fork("c n", twig("a"), twig("c"), twig("d")), fork("t", fine, twig("t"))), 1, api.ErrTreeShape, "c", ""},
		{"a branch's first key below its Span", fork("m", fork("c", twig("a"), twig("c")), fork("b p", twig("m"), twig("n"), twig("t"))), 4, api.ErrTreeShape, "n", "a c"},
		{"no such page", fork("m", twig("a"), number(60)), 2, api.ErrPagesNone, "n", "a"},
		{"no such page", fork("m", number(65535), fine), 1, api.ErrPagesNone, "a", ""},
	}
}

// A page that is not as it must be is named by whoever comes to it, and no wrong entry is told.
func TestFaults(t *testing.T) {
	for _, f := range faults() {
		for _, committed := range []bool{false, true} {
			s, _ := format(t, 512, 64)
			numbers := planted(t, s, f.wood)
			if committed {
				s.Commit()
			}
			n := numbers[f.at]
			b, err := btree.Open(s)
			if f.at == 0 && f.why == api.ErrTreeKind {
				if b != nil || err != api.ErrTreeKind {
					t.Errorf("%s: Open: %v, %v", f.name, b, err)
				}
				b = swapped(t, s, numbers[0])
			}
			for name, call := range calls(b, []byte(f.key), []byte("new")) {
				switch name {
				case "Scan of none", "DeleteRange of none":
					continue
				case "High":
					if f.at > 1 {
						continue
					}
				case "Put", "Delete", "DeleteRange", "Drop":
					if !committed {
						continue
					}
				}
				if err, _ := call(); !lost(err, n, f.why) {
					t.Errorf("%s: %s: %v, want %v in the page %d", f.name, name, err, f.why, n)
				}
				if committed {
					s.Abort()
				}
			}
			told, wrong := "", error(nil)
			for key := range b.Scan(from(""), &wrong) {
				told += string(key) + " "
			}
			if strings.TrimSpace(told) != f.told || !lost(wrong, n, f.why) {
				t.Errorf("%s: Scan: %q, %v, want %q, and %v in the page %d", f.name, told, wrong, f.told, f.why, n)
			}
		}
	}
}

// A Delete that leaves little joins it with a neighbour: if that is not as it must be, it is named, and nothing of it comes into another leaf.
func TestFaultyNeighbours(t *testing.T) {
	for _, f := range []fault{
		{"below its Span", fork("c f", twig("a"), twig("b", "d"), twig("f", "g")), 2, api.ErrTreeShape, "g", ""},
		{"above its Span", fork("c f", twig("a", "b"), twig("c", "h"), twig("f")), 2, api.ErrTreeShape, "b", ""},
		{"the first one", fork("c f", twig("a", "c"), twig("d", "e"), twig("f")), 1, api.ErrTreeShape, "d", ""},
		{"the last one", fork("c", twig("a", "aa"), twig("b", "d")), 2, api.ErrTreeShape, "a", ""},
		{"empty", fork("c", twig("a", "aa"), twig()), 2, api.ErrTreeShape, "a", ""},
		{"of another kind", fork("c", twig("a", "aa"), other(api.Node, "")), 2, api.ErrTreeKind, "a", ""},
		{"of no form", fork("c", other(api.Leaf, ""), twig("d", "e")), 1, api.ErrLeafForm, "d", ""},
		{"a branch, below its Span", fork("f m", fork("c", twig("a"), twig("c")), fork("e", twig("f"), twig("g")), fork("t", twig("m", "n"), twig("t"))), 4, api.ErrTreeShape, "n", ""},
		{"a branch, above its Span", fork("f m", fork("c", twig("a", "b"), twig("c")), fork("n", twig("f"), twig("g")), fork("t", twig("m"), twig("t"))), 4, api.ErrTreeShape, "b", ""},
		{"a leaf where a branch must be", fork("m", fork("c", twig("a", "b"), twig("c")), twig("n")), 4, api.ErrTreeShape, "b", ""},
	} {
		s, _ := format(t, 512, 100)
		n := planted(t, s, f.wood)[f.at]
		s.Commit()
		was, err := opened(t, s).Delete([]byte(f.key))
		if was || !lost(err, n, f.why) {
			t.Errorf("%s: Delete of %s: %v, %v, want %v in the page %d", f.name, f.key, was, err, f.why, n)
		}
	}
}

// swapped is a tree that was opened when there was a root, where there is another one now.
func swapped(t *testing.T, s *pages.Store, root int) *btree.Tree {
	t.Helper()
	n, err := s.New(api.Leaf, []byte("\x00\x00"))
	if err != api.OK {
		t.Fatalf("New: %v", err)
	}
	s.SetRoot(n)
	b := opened(t, s)
	s.SetRoot(root)
	s.Free(n)
	s.Commit()
	return b
}

// Leaves that are not equally far from the root need not be noticed: each call ends, tells no wrong entry, and whom it names is one of the pages.
func TestUnevenLeaves(t *testing.T) {
	deep := fork("t", fork("p", twig("m"), twig("p")), fork("w", twig("t"), twig("w")))
	shallow := twig("a", "b")
	for i, w := range []wood{
		fork("m", shallow, deep),
		fork("c m", fork("b", twig("a"), twig("b")), twig("c", "d"), deep),
		{below: []wood{deep, twig("x", "y")}, keys: []string{"x"}},
		fork("c m", twig("a"), fork("e", twig("c"), twig("e")), twig("n")),
	} {
		s, _ := format(t, 512, 100)
		if i == 2 {
			w.below[0] = fork("h", fork("d", twig("a"), twig("d")), fork("j", twig("h"), twig("j")))
		}
		numbers := planted(t, s, w)
		s.Commit()
		b := opened(t, s)
		all := w.world()
		fine := func(what string, err error) bool {
			t.Helper()
			var l *api.Lost
			if err != nil && (!errors.As(err, &l) || !slices.Contains(numbers, l.Page) || l.Err != api.ErrTreeShape) {
				t.Errorf("%s: %v", what, err)
			}
			return err == nil
		}
		for _, key := range append(all.keys(from("")), "0", "l", "z") {
			value, there, err := b.Get([]byte(key))
			if _, is := all[key]; fine("Get", err) && (string(value) != all[key] || there != is) {
				t.Errorf("Get of %s: %s, %v", key, value, there)
			}
			for name, call := range calls(b, []byte(key), []byte("new")) {
				err, _ := call()
				fine(fmt.Sprint(name, " of ", key), err)
				if err := s.Abort(); err != api.OK {
					t.Fatal(err)
				}
			}
			for _, hi := range all.keys(from(key)) {
				_, err := b.DeleteRange(span(key, hi))
				fine("DeleteRange", err)
				if err := s.Abort(); err != api.OK {
					t.Fatal(err)
				}
			}
		}
		l, err := told(b, from(""))
		fine("Scan", err)
		if !strings.HasPrefix(all.show(from("")), l) {
			t.Errorf("Scan: %s", l)
		}
	}
}

// Behind a change that was given up all is as it was, once it is taken back, also where pages beside the way are lost.
func TestGivenUp(t *testing.T) {
	f := &forest{dice: new(dice), size: 512}
	w, _ := f.wood(2, 30)
	x := grown(t, 512, 4000, w, true)
	keys := x.now.keys(from(""))
	all := x.sound("grown").pages
	gaveUp := 0
	for range 300 {
		n := one(f.dice, all)
		back := x.spoil(f.dice, n)
		_, _, why := x.s.Get(n)
		at := f.below(len(keys))
		var errs []error
		errs = append(errs, x.b.Put([]byte(f.between(keys[at])), make([]byte, 128)))
		_, err := x.b.Delete([]byte(keys[at]))
		errs = append(errs, err)
		_, err = x.b.DeleteRange(span(keys[at], one(f.dice, keys)))
		errs = append(errs, err)
		for _, err := range errs {
			if err != nil && !lost(err, n, why) {
				t.Fatalf("a change beside the lost page %d: %v", n, err)
			}
			if err != nil {
				gaveUp++
			}
		}
		back()
		x.abort()
		x.sound("taken back")
	}
	if gaveUp == 0 {
		t.Error("no change came to a lost page")
	}
}
