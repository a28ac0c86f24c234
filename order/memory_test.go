package order_test

import (
	"bytes"
	"slices"
	"sync"
	"testing"

	"banyan/api"
	"banyan/order"
)

// given is what calls are handed in: keys that stand in one piece of memory, each with those behind it as its spare room, and ranges of them, with spare room too.
type given struct {
	room   []byte
	keys   [][]byte
	ranges []api.Range
	behind []api.Range
}

// give makes them of some keys: all ranges that have two of them.
func give(keys ...string) *given {
	g := &given{}
	for _, key := range keys {
		g.room = append(g.room, key...)
	}
	g.room = append(g.room, "spare room"...)
	at := 0
	for _, key := range keys {
		g.keys = append(g.keys, g.room[at:at+len(key)])
		at += len(key)
	}
	for _, lo := range g.keys {
		for _, hi := range g.keys {
			g.ranges = append(g.ranges, api.Range{Lo: lo, Hi: hi}, api.Range{Lo: lo, Hi: hi, All: true})
		}
	}
	slices.Reverse(g.ranges)
	g.behind = append(slices.Clone(g.ranges), of("x", "y"), from("z"), of("spare", "room"))
	g.ranges = g.behind[:len(g.ranges)]
	return g
}

// memoryKeys are some of which some begin alike, one without bytes among them.
func memoryKeys() []string { return []string{"", "a", "ab", "abc", "b", "bb", "\xff"} }

// told is all lists of bytes that ranges have.
func told(l ...api.Range) [][]byte {
	var list [][]byte
	for _, r := range l {
		list = append(list, r.Lo, r.Hi)
	}
	return list
}

// answers calls everything that tells lists, each of many arguments, and has for each call all the lists that it told.
func (g *given) answers() [][][]byte {
	var list [][][]byte
	for _, a := range g.keys {
		list = append(list, [][]byte{order.Next(a)})
		for _, b := range g.keys {
			key, _ := order.Between(a, b)
			list = append(list, [][]byte{key})
		}
	}
	for _, a := range g.ranges {
		for _, b := range g.ranges {
			ahead, behind := order.Minus(a, b)
			list = append(list, told(order.Meet(a, b)), told(ahead, behind), told(order.Cover([]api.Range{a, b})...))
		}
	}
	bounded := slices.DeleteFunc(slices.Clone(g.ranges), func(r api.Range) bool { return r.All })
	return append(list, told(order.Cover(bounded)...), told(order.Cover(g.ranges)...))
}

// asks calls everything that tells none.
func (g *given) asks() {
	for _, a := range g.keys {
		for _, b := range g.keys {
			order.Compare(a, b)
			order.Common(a, b)
		}
		for _, r := range g.ranges {
			order.Has(r, a)
		}
	}
	for _, a := range g.ranges {
		order.Empty(a)
		for _, b := range g.ranges {
			order.Inside(a, b)
		}
	}
}

// copies are the same lists of other memory.
func copies(l [][]byte) [][]byte {
	var list [][]byte
	for _, b := range l {
		list = append(list, bytes.Clone(b))
	}
	return list
}

// overwrite turns all bytes of a list and of its spare room.
func overwrite(b []byte) {
	b = b[:cap(b)]
	for i := range b {
		b[i] = ^b[i]
	}
}

// P3: what is handed in stays as it was, and what stands behind it too: the bytes, and the list of ranges.
func TestLeftAlone(t *testing.T) {
	g := give(memoryKeys()...)
	room, behind := bytes.Clone(g.room), copyList(g.behind)
	g.asks()
	g.answers()
	if !bytes.Equal(g.room, room) {
		t.Errorf("a key was written into: %q", g.room)
	}
	if !sameList(g.behind, behind) {
		t.Errorf("the list of ranges was written into: %s", show(g.behind...))
	}
}

// P3: an answer is new memory: what is written into it, or into its spare room, is seen neither in what was handed in nor in another list, be that one told ahead of it or behind it.
func TestNewMemory(t *testing.T) {
	for _, backward := range []bool{false, true} {
		g := give(memoryKeys()...)
		room := bytes.Clone(g.room)
		all := slices.Concat(g.answers()...)
		if backward {
			slices.Reverse(all)
		}
		old := copies(all)
		for i, b := range all {
			if !bytes.Equal(b, old[i]) {
				t.Fatalf("a list changes with another one: %q, and it was %q", b, old[i])
			}
			overwrite(b)
		}
		if !bytes.Equal(g.room, room) {
			t.Errorf("what is handed in changes with the answers: %q", g.room)
		}
	}
}

// P3: nothing that is handed in is kept: an answer stays as it was, whatever becomes of the keys and of the list.
func TestNothingKept(t *testing.T) {
	g := give(memoryKeys()...)
	all := slices.Concat(g.answers()...)
	old := copies(all)
	overwrite(g.room)
	clear(g.behind)
	for i, b := range all {
		if !bytes.Equal(b, old[i]) {
			t.Fatalf("a list changes with what was handed in: %q, and it was %q", b, old[i])
		}
	}
}

// P3: Cover's list is new: what is written into it, or behind it, is not seen in the list that was handed in.
func TestCoverListIsNew(t *testing.T) {
	for _, n := range []int{0, 1, 2, 3} {
		whole := []api.Range{of("a", "b"), of("c", "d"), of("e", "f"), of("g", "h")}
		old := copyList(whole)
		first, second := order.Cover(whole[:n]), order.Cover(whole[:n])
		for _, cover := range [][]api.Range{first, second} {
			if !sameList(cover, old[:n]) {
				t.Errorf("Cover of %d ranges: %s", n, show(cover...))
			}
			cover = cover[:cap(cover)]
			for i := range cover {
				cover[i] = from("new")
			}
		}
		if !sameList(whole, old) {
			t.Errorf("Cover of %d ranges, whose answer was written into: %s", n, show(whole...))
		}
	}
}

// P4: what a call answers hangs on its arguments alone, whoever else calls with the same ones.
func TestManyHands(t *testing.T) {
	g := give(memoryKeys()...)
	want := g.answers()
	var hands sync.WaitGroup
	for range 8 {
		hands.Go(func() {
			got := g.answers()
			g.asks()
			same := func(a, b [][]byte) bool { return slices.EqualFunc(a, b, bytes.Equal) }
			if !slices.EqualFunc(got, want, same) {
				t.Error("one of many hands is told otherwise")
			}
		})
	}
	hands.Wait()
}
