package betree_test

import (
	"errors"
	"fmt"
	"slices"
	"strings"
	"testing"

	"banyan/api"
	"banyan/betree"
	"banyan/branch"
	"banyan/msg"
	"banyan/node"
	"banyan/pages"
)

// way is the pages from the root down that a Get of a key needs: down to the leaf, or to the node in which a message says something of it.
func way(t *testing.T, s *pages.Store, key string) []int {
	t.Helper()
	numbers := []int{s.Root()}
	for {
		kind, payload, err := s.Get(numbers[len(numbers)-1])
		if err != api.OK {
			t.Fatalf("Get: %v", err)
		}
		if kind == api.Leaf {
			return numbers
		}
		b, err := node.Decode(s.Size(), payload)
		if err != api.OK {
			t.Fatalf("Decode: %v", err)
		}
		if said, _, _ := msg.Get(b.Msgs, []byte(key)); said {
			return numbers
		}
		numbers = append(numbers, b.Kids.Pages[branch.Child(b.Kids, []byte(key))])
	}
}

// spoil turns some bits within 64 that stand one behind the other in a block, and tells how to turn them back, and once more.
func (x *trial) spoil(r *dice, n int) (turn func()) {
	x.t.Helper()
	from := r.below(8*x.s.Size() - 63)
	bits := map[int]byte{}
	for range 1 + r.below(64) {
		at := from + r.below(64)
		bits[at/8] |= 1 << (7 - at%8)
	}
	flip := func() {
		for at, by := range bits {
			if err := x.d.Flip(n, at, by); err != api.OK {
				x.t.Fatalf("Flip: %v", err)
			}
		}
	}
	flip()
	return flip
}

// P17.6: whichever page of a tree is turned: Get of each key answers as ahead, or names the page; Scan tells what it told, up to an error that names it.
func TestTurned(t *testing.T) {
	for _, size := range sizes {
		t.Run(fmt.Sprint(size), func(t *testing.T) {
			t.Parallel()
			f := &forest{dice: new(dice), size: size}
			for high := range 4 {
				x := grown(t, size, 4000, f.tree(high, []int{30, 15, 5, 0}[high]), greedy(), true)
				pages, ways := x.sound("grown").pages, x.ways()
				for i := range min(40, len(pages)) {
					n := pages[(i*31+len(pages)/2)%len(pages)]
					back := x.spoil(f.dice, n)
					x.turned(n, ways)
					back()
				}
				tellsAll(t, "turned back", x.b, x.now)
			}
		})
	}
}

// ways are those of all keys that are there, and of some that are not.
func (x *trial) ways() map[string][]int {
	x.t.Helper()
	all := map[string][]int{}
	for key := range x.now {
		all[key] = way(x.t, x.s, key)
		all[key[:1]] = way(x.t, x.s, key[:1])
	}
	return all
}

// turned holds what a tree tells of which a page was turned.
func (x *trial) turned(n int, ways map[string][]int) {
	x.t.Helper()
	_, _, why := x.s.Get(n)
	for key, numbers := range ways {
		if !slices.Contains(numbers, n) {
			gets(x.t, "beside what is turned", x.b, x.now, key)
			continue
		}
		value, there, err := x.b.Get([]byte(key))
		if value != nil || there || !lost(err, n, why) || why == api.OK {
			x.t.Fatalf("Get of %x: %x, %v, %v, want an error in the page %d", key, value, there, err, n)
		}
	}
	told, err := told(x.b, from(""))
	if all := x.now.show(from("")); !strings.HasPrefix(all, told) || !lost(err, n, why) {
		x.t.Fatalf("Scan: %.2000s, %v, want a beginning of %.2000s, and an error in the page %d", told, err, all, n)
	}
}

// Whatever one bit of a small tree is turned: no wrong entry is told.
func TestEachBit(t *testing.T) {
	x := grown(t, 512, 64, fork("c e", twig("a", "b"), twig("c", "d"), twig("e")).with("5-a 7+aa=7 6-c:d"), greedy(), true)
	ways := x.ways()
	for _, n := range x.s.Live() {
		for bit := range 512 * 8 {
			x.d.Flip(n, bit/8, 1<<(bit%8))
			x.turned(n, ways)
			x.d.Flip(n, bit/8, 1<<(bit%8))
		}
	}
}

// What Scan tells ahead of an error are just the entries of all leaves ahead of the page.
func TestToldAhead(t *testing.T) {
	w := fork("m", fork("c f", twig("a", "b"), twig("c"), twig("f")), fork("r", twig("m", "n"), twig("r", "s"))).with("7-a 9+d=d 8-n")
	asked := map[int]string{0: "", 1: "", 2: "", 3: "b", 4: "b c d", 5: "b c d f", 6: "b c d f", 7: "b c d f m"}
	for at, keys := range asked {
		x := grown(t, 512, 64, w, greedy(), false)
		// Planted: each page ahead of those beneath it is told first, though its number is a greater one.
		numbers := x.order()
		x.commit()
		turn(t, x.d, numbers[at])
		var told []string
		var wrong error
		for key := range x.b.Scan(from(""), &wrong) {
			told = append(told, string(key))
		}
		if strings.Join(told, " ") != keys || !lost(wrong, numbers[at], api.OK) {
			t.Errorf("the page %d is turned: %q, %v, want %q", at, told, wrong, keys)
		}
		if next := "b"; at > 2 {
			// What lies ahead of the range is not read.
			tells(t, "ahead of the page", x.b, x.now, span("", next))
		}
	}
}

// order is the pages of the tree, each ahead of its children.
func (x *trial) order() []int {
	x.t.Helper()
	var all []int
	var visit func(n int)
	visit = func(n int) {
		all = append(all, n)
		kind, payload, _ := x.s.Get(n)
		if kind == api.Node {
			b, _ := node.Decode(x.s.Size(), payload)
			for _, m := range b.Kids.Pages {
				visit(m)
			}
		}
	}
	visit(x.s.Root())
	return all
}

// Changes that come to a page that cannot be read name it, and once it can be read and all is taken back, the tree is as it was.
func TestChangesOfTurned(t *testing.T) {
	f := &forest{dice: new(dice), size: 512}
	for high := range 3 {
		x := grown(t, 512, 4000, f.tree(high, 10), greedy(), true)
		keys := x.now.keys(from(""))
		for range 60 {
			key := one(f.dice, keys)
			n := one(f.dice, way(t, x.s, key))
			turn := x.spoil(f.dice, n)
			_, _, why := x.s.Get(n)
			for name, call := range calls(x.b, []byte(key), []byte("new")) {
				switch name {
				case "Scan of none", "DeleteRange of none", "High":
					continue
				}
				err, zero := call()
				// A message may wait above the page, and what waits may come to other leaves alone.
				other := (name == "Put" || name == "Delete" || name == "Flush") && n != x.s.Root()
				if !zero || !lost(err, n, why) && !(other && err == nil) {
					t.Fatalf("%s of %x: %v, else nothing: %v, want an error in the page %d", name, key, err, zero, n)
				}
				turn()
				x.stamp = x.b.Stamp()
				x.abort()
				x.sound("taken back")
				turn()
			}
			turn()
			x.abort()
		}
		tellsAll(t, "taken back", x.b, x.now)
	}
}

// Drop of a tree of which a page is lost changes nothing at all, whichever page it is.
func TestDropOfTurned(t *testing.T) {
	f := &forest{dice: new(dice), size: 512}
	for high := range 3 {
		x := grown(t, 512, 4000, f.tree(high, 0), greedy(), true)
		all, root := x.s.Live(), x.s.Root()
		for _, n := range all {
			turn(t, x.d, n)
			if err := x.b.Drop(); !lost(err, n, api.OK) {
				t.Fatalf("Drop: %v, want an error in the page %d", err, n)
			}
			turn(t, x.d, n)
			live(t, "Drop is refused", x.s, slices.Clone(all)...)
			if x.s.Root() != root {
				t.Fatalf("the root is %d, was %d", x.s.Root(), root)
			}
		}
		x.sound("Drop is refused")
		tellsAll(t, "Drop is refused", x.b, x.now)
	}
}

// The device refuses to read: whoever comes to a page names it.
func TestPowerIsOff(t *testing.T) {
	x := grown(t, 512, 64, fork("c", twig("a", "b"), twig("c", "d")).with("5-a"), greedy(), true)
	root := x.s.Root()
	x.d.Arm(1, api.Stop, false)
	x.d.Barrier()
	for name, call := range calls(x.b, []byte("a"), []byte("new")) {
		if name == "DeleteRange of none" || name == "Scan of none" {
			continue
		}
		if err, zero := call(); !lost(err, root, api.ErrDevOff) || !zero {
			t.Errorf("%s: %v, else nothing: %v", name, err, zero)
		}
	}
	x.reopen()
	tellsAll(t, "the power is back", x.b, x.now)
}

// fault is a tree by hand with a page that is not as it must be: the how manyth it is from the root on, and what is said of it.
type fault struct {
	name string
	wood wood
	at   int
	why  api.Errno
	key  string // one that leads to it
	told string // the keys ahead of it that Scan tells
}

func faults() []fault {
	fine := twig("m", "n")
	return []fault{
		{"a root of another kind", other(api.Branch, ""), 0, api.ErrTreeKind, "a", ""},
		{"a root of another kind", other(api.Other, "\x00\x00"), 0, api.ErrTreeKind, "a", ""},
		{"a child of another kind", fork("m", twig("a"), other(api.Branch, "\x00\x00")), 2, api.ErrTreeKind, "m", "a"},
		{"a child of another kind", fork("m", other(api.Other, ""), fine), 1, api.ErrTreeKind, "a", ""},
		{"a root of no form", other(api.Leaf, ""), 0, api.ErrLeafForm, "a", ""},
		{"a root of no form", other(api.Node, "\x00\x00"), 0, api.ErrNodeForm, "a", ""},
		{"a leaf of no form", fork("m", twig("a", "b"), other(api.Leaf, "\x00\x01")), 2, api.ErrLeafForm, "z", "a b"},
		{"a leaf with a byte too many", fork("m", other(api.Leaf, "\x00\x00\x00"), fine), 1, api.ErrLeafForm, "l", ""},
		{"a node of no form", fork("m", fork("c", twig("a"), twig("c")), other(api.Node, "\x00\x02")), 4, api.ErrNodeForm, "m", "a c"},
		{"a node of one child", fork("m", other(api.Node, "\x00\x01\x00\x00\x00\x02\x00\x00\x00\x00"), fine), 1, api.ErrNodeForm, "a", ""},
		{"no such page", fork("m", twig("a"), number(60)), 2, api.ErrPagesNone, "n", "a"},
		{"no such page", fork("m", number(65535), fine), 1, api.ErrPagesNone, "a", ""},
		// Trees of another shape: nothing is promised of them but that calls answer; this layer names the page.
		{"an empty leaf", fork("m", twig(), fine), 1, api.ErrTreeShape, "a", ""},
		{"a leaf's key below its Span", fork("m", twig("a"), twig("b", "n")), 2, api.ErrTreeShape, "n", "a"},
		{"a leaf's key at the end of its Span", fork("m", twig("a", "m"), twig("n")), 1, api.ErrTreeShape, "a", ""},
		{"a leaf's key above a Span further up", fork("m", fork("c", twig("a"), twig("c", "n")), fork("t", fine, twig("t"))), 3, api.ErrTreeShape, "c", "a"},
		{"a node's key below its Span", fork("m", fork("c", twig("a"), twig("c")), fork("f", twig("n"), twig("t"))), 4, api.ErrTreeShape, "n", "a c"},
		{"a node's key at the least key of its Span", fork("m", fork("c", twig("a"), twig("c")), fork("m", twig("n"), twig("t"))), 4, api.ErrTreeShape, "n", "a c"},
		{"a node's key at the end of its Span", fork("m", fork("m", twig("a"), twig("l")), fork("t", fine, twig("t"))), 1, api.ErrTreeShape, "a", ""},
		{"a message below its node's Span", fork("m", fork("c", twig("a"), twig("c")), fork("t", twig("n"), twig("t")).with("3-b")), 4, api.ErrTreeShape, "n", "a c"},
		{"a message above its node's Span", fork("m", fork("c", twig("a"), twig("c")).with("3+m=m"), fork("t", twig("n"), twig("t"))), 1, api.ErrTreeShape, "a", ""},
		{"a range beyond its node's Span", fork("m", fork("c", twig("a"), twig("c")).with("3-d:mm"), fork("t", twig("n"), twig("t"))), 1, api.ErrTreeShape, "a", ""},
	}
}

// A page that is not as it must be is named by whoever comes to it, and no wrong entry is told.
func TestFaults(t *testing.T) {
	for _, f := range faults() {
		for _, committed := range []bool{false, true} {
			s, _ := format(t, 512, 64)
			numbers := planted(t, s, f.wood)
			if committed {
				s.Commit()
			}
			n := numbers[f.at]
			b, err := betree.Open(s, greedy(), 100)
			if f.at == 0 && f.why == api.ErrTreeKind {
				if b != nil || err != api.ErrTreeKind {
					t.Errorf("%s: Open: %v, %v", f.name, b, err)
				}
				b = swapped(t, s, numbers[0])
			}
			for name, call := range calls(b, []byte(f.key), []byte("new")) {
				switch name {
				case "Scan of none", "DeleteRange of none", "Flush":
					continue
				case "High":
					if f.at > 1 {
						continue
					}
				case "Put", "Delete":
					if !committed || f.at > 0 {
						continue
					}
				case "DeleteRange", "Drop":
					if !committed {
						continue
					}
				}
				if err, _ := call(); !lost(err, n, f.why) {
					t.Errorf("%s: %s: %v, want %v in the page %d", f.name, name, err, f.why, n)
				}
				if committed {
					s.Abort()
				}
			}
			told, wrong := "", error(nil)
			for key := range b.Scan(from(""), &wrong) {
				told += string(key) + " "
			}
			if strings.TrimSpace(told) != f.told || !lost(wrong, n, f.why) {
				t.Errorf("%s: Scan: %q, %v, want %q, and %v in the page %d", f.name, told, wrong, f.told, f.why, n)
			}
		}
	}
}

// swapped is a tree that was opened when there was a root, where there is another one now.
func swapped(t *testing.T, s *pages.Store, root int) *betree.Tree {
	t.Helper()
	n, err := s.New(api.Leaf, []byte("\x00\x00"))
	if err != api.OK {
		t.Fatalf("New: %v", err)
	}
	s.SetRoot(n)
	b := opened(t, s, greedy(), 100)
	s.SetRoot(root)
	s.Free(n)
	s.Commit()
	return b
}

// Messages go down to a page that is not as it must be, or come to one beside it: it is named.
func TestFaultyWays(t *testing.T) {
	much := func(w wood) wood {
		for i := range 3 {
			w.msgs = append(w.msgs, api.Msg{Stamp: uint64(20 + i), Kind: api.Put, Lo: []byte{'x', byte('a' + i)}, Value: make([]byte, 60)})
		}
		return w
	}
	for _, f := range []fault{
		{"a leaf of no form", much(fork("m", twig("a"), other(api.Leaf, "\x00\x01"))), 2, api.ErrLeafForm, "", ""},
		{"a leaf that is not there", much(fork("m", twig("a"), number(60))), 2, api.ErrPagesNone, "", ""},
		{"a child of another kind", much(fork("m", twig("a"), other(api.Branch, ""))), 2, api.ErrTreeKind, "", ""},
		{"a node of no form", much(fork("m", fork("c", twig("a"), twig("c")), other(api.Node, "\x00"))), 4, api.ErrNodeForm, "", ""},
	} {
		s, _ := format(t, 512, 64)
		n := planted(t, s, f.wood)[f.at]
		s.Commit()
		b := opened(t, s, greedy(), 100)
		if err := b.Put([]byte("b"), make([]byte, 100)); !lost(err, n, f.why) {
			t.Errorf("%s: Put: %v", f.name, err)
		}
		s.Abort()
		if err := b.Flush(); !lost(err, n, f.why) {
			t.Errorf("%s: Flush: %v", f.name, err)
		}
	}
	// A leaf where a node must be, beside a node that is left with one child.
	s, _ := format(t, 512, 64)
	n := planted(t, s, fork("m", fork("c", twig("a", "b"), twig("c")), twig("n")))[4]
	s.Commit()
	if err := opened(t, s, greedy(), 100).DeleteRange(span("a", "c")); !lost(err, n, api.ErrTreeShape) {
		t.Errorf("a leaf where a node must be: %v", err)
	}
}

// Leaves that are not equally far from the root need not be noticed: each call ends, and whom it names is one of the pages.
func TestUnevenLeaves(t *testing.T) {
	deep := fork("t", fork("p", twig("m"), twig("p")), fork("w", twig("t"), twig("w")))
	for i, w := range []wood{
		fork("m", twig("a", "b"), deep),
		fork("c m", fork("b", twig("a"), twig("b")), twig("c", "d"), deep),
		fork("x", fork("h", fork("d", twig("a"), twig("d")), fork("j", twig("h"), twig("j"))), twig("x", "y")),
		fork("c m", twig("a"), fork("e", twig("c"), twig("e")), twig("n")),
	} {
		for _, said := range []string{"", "5-a 6+b=b 9+z=z", "5+" + strings.Repeat("a", 32) + "=x 9+y=y"} {
			s, _ := format(t, 512, 100)
			numbers := planted(t, s, w.with(said))
			s.Commit()
			fine := func(what string, err error) {
				t.Helper()
				var l *api.Lost
				if err != nil && (!errors.As(err, &l) || !slices.Contains(numbers, l.Page)) {
					t.Errorf("%d: %s: %v", i, what, err)
				}
			}
			for _, key := range []string{"0", "a", "c", "l", "n", "t", "z"} {
				b := opened(t, s, greedy(), 100)
				for name, call := range calls(b, []byte(key), make([]byte, 128)) {
					err, _ := call()
					fine(fmt.Sprint(name, " of ", key), err)
					s.Abort()
				}
				for _, hi := range []string{"b", "d", "m", "n", "u"} {
					fine("DeleteRange", b.DeleteRange(span(key, hi)))
					s.Abort()
				}
				for range 5 {
					fine("Put", b.Put([]byte(key), make([]byte, 128)))
				}
				fine("Flush", b.Flush())
				s.Abort()
			}
		}
	}
}

// Behind a change that was given up all is as it was, once it is taken back, also where pages beside the way are lost.
func TestGivenUp(t *testing.T) {
	f := &forest{dice: new(dice), size: 512}
	x := grown(t, 512, 4000, f.tree(2, 10), greedy(), true)
	keys := x.now.keys(from(""))
	all := x.sound("grown").pages
	gaveUp := 0
	for range 200 {
		n := one(f.dice, all)
		back := x.spoil(f.dice, n)
		_, _, why := x.s.Get(n)
		at := f.below(len(keys))
		for _, err := range []error{
			x.b.Put([]byte(f.between(keys[at])), make([]byte, 128)),
			x.b.Delete([]byte(keys[at])),
			x.b.DeleteRange(span(keys[at], one(f.dice, keys))),
			x.b.Flush(),
		} {
			if err != nil && !lost(err, n, why) {
				t.Fatalf("a change beside the lost page %d: %v", n, err)
			}
			if err != nil {
				gaveUp++
			}
		}
		back()
		x.stamp = x.b.Stamp()
		if err := x.s.Abort(); err != api.OK {
			t.Fatal(err)
		}
		x.now = world{}
		for key, value := range x.last {
			x.now[key] = value
		}
		if n != x.s.Root() {
			x.b = opened(t, x.s, x.p, x.stamp)
		}
		x.sound("taken back")
	}
	if gaveUp == 0 {
		t.Error("no change came to a lost page")
	}
}
