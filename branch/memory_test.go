package branch_test

import (
	"bytes"
	"slices"
	"strings"
	"sync"
	"testing"

	"banyan/api"
	"banyan/branch"
)

// given is what calls are handed in: keys and texts that stand in one piece of memory, each with those behind it as its spare room, and lists of children and keys with spare room too.
type given struct {
	room   []byte
	behind api.Kids
	kids   api.Kids
	by     []api.Kids
	texts  [][]byte
}

// give makes them. What others are replaced by shares memory with them.
func give() *given {
	keys := []string{"a", "ab", "abc", "b", "ba", "c", strings.Repeat("k", 32)}
	encoded, _ := branch.Encode(512, with(keys...))
	texts := []string{string(encoded), written(example()), written(with("a")), string(encoded[:9]), string(encoded) + "more"}
	g := &given{room: []byte(strings.Join(keys, "") + strings.Join(texts, "") + "spare room")}
	at := 0
	next := func(n int) []byte {
		at += n
		return g.room[at-n : at]
	}
	for i, key := range keys {
		g.behind.Pages = append(g.behind.Pages, 5+i)
		g.behind.Keys = append(g.behind.Keys, next(len(key)))
	}
	for _, text := range texts {
		g.texts = append(g.texts, next(len(text)))
	}
	g.kids = g.part(0, 5)
	g.by = []api.Kids{g.part(0, 1), g.part(1, 4), g.part(3, 7), g.part(6, 7)}
	return g
}

// part is the children from i up to j, which share memory with the others.
func (g *given) part(i int, j int) api.Kids {
	return api.Kids{Pages: g.behind.Pages[i:j], Keys: g.behind.Keys[i : j-1]}
}

// lists are all Kids that calls tell.
func (g *given) lists() []api.Kids {
	var list []api.Kids
	for _, by := range g.by {
		for i := range g.kids.Pages {
			for j := i + 1; j <= len(g.kids.Pages); j++ {
				k, _ := branch.Replace(g.kids, i, j, by)
				list = append(list, k)
			}
		}
	}
	for _, text := range g.texts {
		k, _ := branch.Decode(512, text)
		list = append(list, k)
	}
	return list
}

// answers are all lists of bytes that calls tell.
func (g *given) answers() [][]byte {
	var list [][]byte
	for n := 1; n <= len(g.behind.Pages); n++ {
		b, _ := branch.Encode(512, g.part(0, n))
		list = append(list, b)
	}
	for i := range g.kids.Pages {
		for _, r := range []api.Range{{All: true}, {Lo: g.behind.Keys[1], Hi: g.behind.Keys[3]}, {}} {
			span, _ := branch.Span(g.kids, r, i)
			list = append(list, span.Lo, span.Hi)
		}
	}
	for _, k := range g.lists() {
		list = append(list, k.Keys...)
	}
	return list
}

// asks calls everything that tells none.
func (g *given) asks() {
	for n := 1; n <= len(g.behind.Pages); n++ {
		k := g.part(0, n)
		branch.Check(512, k)
		branch.Bytes(k)
		branch.Split(512, k)
		for _, key := range g.behind.Keys {
			branch.Child(k, key)
		}
	}
	// Children that do not rise by their numbers, so that sorting them would be seen.
	branch.Check(512, api.Kids{Pages: []int{9, 5, 7}, Keys: g.kids.Keys[:2]})
}

// copies are the same lists of other memory.
func copies(l [][]byte) [][]byte {
	var list [][]byte
	for _, b := range l {
		list = append(list, bytes.Clone(b))
	}
	return list
}

// overwrite turns all bytes of a list and of its spare room.
func overwrite(b []byte) {
	b = b[:cap(b)]
	for i := range b {
		b[i] = ^b[i]
	}
}

// overwriteLists writes into all lists of Kids and into their spare room.
func overwriteLists(k api.Kids) {
	for i, pages := 0, k.Pages[:cap(k.Pages)]; i < len(pages); i++ {
		pages[i] = -7
	}
	clear(k.Keys[:cap(k.Keys)])
}

// P3: what is handed in stays as it was, and what stands behind it too: the bytes, the list of children, the list of keys.
func TestLeftAlone(t *testing.T) {
	g := give()
	slices.Reverse(g.behind.Pages)
	room, behind := bytes.Clone(g.room), copyOf(g.behind)
	g.asks()
	g.answers()
	if !bytes.Equal(g.room, room) {
		t.Errorf("a key or a text was written into: %q", g.room)
	}
	if !same(g.behind, behind) {
		t.Errorf("a list was written into: %s", show(g.behind))
	}
}

// P3: an answer is new memory: what is written into it, or into its spare room, is seen neither in what was handed in nor in another list, be that one told ahead of it or behind it.
func TestNewMemory(t *testing.T) {
	for _, backward := range []bool{false, true} {
		g := give()
		room := bytes.Clone(g.room)
		all := g.answers()
		if backward {
			slices.Reverse(all)
		}
		old := copies(all)
		for i, b := range all {
			if !bytes.Equal(b, old[i]) {
				t.Fatalf("a list changes with another one: %q, and it was %q", b, old[i])
			}
			overwrite(b)
		}
		if !bytes.Equal(g.room, room) {
			t.Errorf("what is handed in changes with the answers: %q", g.room)
		}
	}
}

// P3: lists of children and of keys are new too: what is written into one, or behind it, is seen neither in the list that was handed in nor in another one.
func TestNewLists(t *testing.T) {
	for _, backward := range []bool{false, true} {
		g := give()
		behind := copyOf(g.behind)
		lists := g.lists()
		if backward {
			slices.Reverse(lists)
		}
		var old []api.Kids
		for _, k := range lists {
			old = append(old, copyOf(k))
		}
		for i, k := range lists {
			if !same(k, old[i]) {
				t.Fatalf("a list changes with another one: %s, and it was %s", show(k), show(old[i]))
			}
			overwriteLists(k)
		}
		if !same(g.behind, behind) {
			t.Errorf("the lists that were handed in change with the answers: %s", show(g.behind))
		}
	}
}

// P3: nothing that is handed in is kept: an answer stays as it was, whatever becomes of the bytes and of the lists.
func TestNothingKept(t *testing.T) {
	g := give()
	all, lists := g.answers(), g.lists()
	old := copies(all)
	var oldLists []api.Kids
	for _, k := range lists {
		oldLists = append(oldLists, copyOf(k))
	}
	overwrite(g.room)
	overwriteLists(g.behind)
	for i, b := range all {
		if !bytes.Equal(b, old[i]) {
			t.Fatalf("a list changes with what was handed in: %q, and it was %q", b, old[i])
		}
	}
	if !slices.EqualFunc(lists, oldLists, same) {
		t.Error("a list of children changes with what was handed in")
	}
}

// P4: what a call answers hangs on its arguments alone, whoever else calls with the same ones.
func TestManyHands(t *testing.T) {
	g := give()
	want := g.answers()
	var hands sync.WaitGroup
	for range 8 {
		hands.Go(func() {
			got := g.answers()
			g.asks()
			if !slices.EqualFunc(got, want, bytes.Equal) {
				t.Error("one of many hands is told otherwise")
			}
		})
	}
	hands.Wait()
}
