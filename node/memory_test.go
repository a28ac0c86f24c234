package node_test

import (
	"bytes"
	"slices"
	"strings"
	"sync"
	"testing"

	"banyan/api"
	"banyan/node"
)

// given is what calls are handed in: all bytes stand in one piece of memory, each list of them with those behind it as its spare room, and the lists of children, keys and messages have spare room too.
type given struct {
	room   []byte
	behind api.Buffered
	nodes  []api.Buffered
	texts  [][]byte
}

// give makes them.
func give() *given {
	whole := told(with("b", "d", "f", "h"), "p5 a=x, p6 a=yy, d2 b, r3 c-d, r1 d-f, d1 g, p9 h=, r10 k-m")
	texts := []string{written(whole), written(ofExample("")), written(ofExample("p5 a=x, r4 d-f")), written(whole)[:30], written(whole) + "more"}
	g := &given{behind: copyOf(whole)}
	var places []*[]byte
	for i := range g.behind.Kids.Keys {
		places = append(places, &g.behind.Kids.Keys[i])
	}
	for i := range g.behind.Msgs {
		places = append(places, &g.behind.Msgs[i].Lo, &g.behind.Msgs[i].Hi, &g.behind.Msgs[i].Value)
	}
	for _, text := range texts {
		g.texts = append(g.texts, []byte(text))
	}
	for i := range g.texts {
		places = append(places, &g.texts[i])
	}
	for _, place := range places {
		g.room = append(g.room, *place...)
	}
	g.room = append(g.room, "spare room"...)
	at := 0
	for _, place := range places {
		long := len(*place)
		*place = g.room[at : at+long]
		at += long
	}
	g.nodes = []api.Buffered{g.part(5, 8), g.part(5, 5), g.part(4, 4), g.part(4, 2), g.part(2, 3), g.part(1, 0)}
	return g
}

// part is the first so many children and messages, which share memory with the others.
func (g *given) part(children int, messages int) api.Buffered {
	k := api.Kids{Pages: g.behind.Kids.Pages[:children], Keys: g.behind.Kids.Keys[:children-1]}
	return api.Buffered{Kids: k, Msgs: g.behind.Msgs[:messages]}
}

// lists are all nodes that calls tell; messages that are taken stand as nodes without children.
func (g *given) lists() []api.Buffered {
	var list []api.Buffered
	for _, n := range g.nodes {
		for i := range n.Kids.Pages {
			left, taken, _ := node.Take(n, i)
			list = append(list, left, api.Buffered{Msgs: taken})
		}
	}
	for _, text := range g.texts {
		n, _ := node.Decode(512, text)
		list = append(list, n)
	}
	return list
}

// answers are all lists of bytes that calls tell.
func (g *given) answers() [][]byte {
	var list [][]byte
	for _, n := range g.nodes {
		b, _ := node.Encode(512, n)
		list = append(list, b)
	}
	for _, n := range g.lists() {
		list = append(list, n.Kids.Keys...)
		for _, one := range n.Msgs {
			list = append(list, one.Lo, one.Hi, one.Value)
		}
	}
	return list
}

// asks calls everything that tells no bytes.
func (g *given) asks() {
	for _, n := range g.nodes {
		node.Check(512, n)
		node.Room(512, n.Kids)
		node.Weights(n)
		node.Split(512, n)
	}
}

// copies are the same lists of other memory.
func copies(l [][]byte) [][]byte {
	var list [][]byte
	for _, b := range l {
		list = append(list, bytes.Clone(b))
	}
	return list
}

// overwrite turns all bytes of a list and of its spare room.
func overwrite(b []byte) {
	b = b[:cap(b)]
	for i := range b {
		b[i] = ^b[i]
	}
}

// overwriteLists writes into all lists of a node and into their spare room.
func overwriteLists(n api.Buffered) {
	for i, pages := 0, n.Kids.Pages[:cap(n.Kids.Pages)]; i < len(pages); i++ {
		pages[i] = -7
	}
	clear(n.Kids.Keys[:cap(n.Kids.Keys)])
	clear(n.Msgs[:cap(n.Msgs)])
}

// The nodes of these tests may be, where they are asked for bytes: else the tests would tell nothing.
func TestGivenMayBe(t *testing.T) {
	g := give()
	for _, n := range g.nodes[:5] {
		if err := node.Check(512, n); err != api.OK {
			t.Errorf("Check(%s): %v", show(n), err)
		}
	}
	if n, err := node.Split(512, g.nodes[0]); n == 0 || err != api.OK {
		t.Errorf("Split: %d, %v", n, err)
	}
	if n, err := node.Decode(512, g.texts[0]); !same(n, g.nodes[0]) || err != api.OK {
		t.Errorf("Decode: %s, %v", show(n), err)
	}
	if !strings.HasSuffix(string(g.room), "spare room") {
		t.Error("there is no spare room")
	}
}

// P3: what is handed in stays as it was, and what stands behind it too: the bytes, the lists of children, keys and messages.
func TestLeftAlone(t *testing.T) {
	g := give()
	slices.Reverse(g.behind.Kids.Pages)
	room, behind := bytes.Clone(g.room), copyOf(g.behind)
	g.asks()
	g.answers()
	if !bytes.Equal(g.room, room) {
		t.Errorf("a key, a value or a text was written into: %q", g.room)
	}
	if !same(g.behind, behind) {
		t.Errorf("a list was written into: %s", show(g.behind))
	}
}

// P3: an answer is new memory: what is written into it, or into its spare room, is seen neither in what was handed in nor in another list, be that one told ahead of it or behind it.
func TestNewMemory(t *testing.T) {
	for _, backward := range []bool{false, true} {
		g := give()
		room := bytes.Clone(g.room)
		all := g.answers()
		if backward {
			slices.Reverse(all)
		}
		old := copies(all)
		for i, b := range all {
			if !bytes.Equal(b, old[i]) {
				t.Fatalf("a list changes with another one: %q, and it was %q", b, old[i])
			}
			overwrite(b)
		}
		if !bytes.Equal(g.room, room) {
			t.Errorf("what is handed in changes with the answers: %q", g.room)
		}
	}
}

// P3: lists of children, keys and messages are new too, and the weights: what is written into one, or behind it, is seen neither in the list that was handed in nor in another one.
func TestNewLists(t *testing.T) {
	for _, backward := range []bool{false, true} {
		g := give()
		behind := copyOf(g.behind)
		lists := g.lists()
		if backward {
			slices.Reverse(lists)
		}
		var old []api.Buffered
		for _, n := range lists {
			old = append(old, copyOf(n))
		}
		for i, n := range lists {
			if !same(n, old[i]) {
				t.Fatalf("a list changes with another one: %s, and it was %s", show(n), show(old[i]))
			}
			overwriteLists(n)
		}
		if !same(g.behind, behind) {
			t.Errorf("the lists that were handed in change with the answers: %s", show(g.behind))
		}
	}
	g := give()
	one, other := node.Weights(g.nodes[0]), node.Weights(g.nodes[0])
	clear(one[:cap(one)])
	if slices.Max(other) == 0 {
		t.Error("two answers of Weights share memory")
	}
}

// P3: nothing that is handed in is kept: an answer stays as it was, whatever becomes of the bytes and of the lists.
func TestNothingKept(t *testing.T) {
	g := give()
	all, lists := g.answers(), g.lists()
	old := copies(all)
	var oldLists []api.Buffered
	for _, n := range lists {
		oldLists = append(oldLists, copyOf(n))
	}
	overwrite(g.room)
	overwriteLists(g.behind)
	for i, b := range all {
		if !bytes.Equal(b, old[i]) {
			t.Fatalf("a list changes with what was handed in: %q, and it was %q", b, old[i])
		}
	}
	if !slices.EqualFunc(lists, oldLists, same) {
		t.Error("a list of an answer changes with what was handed in")
	}
}

// P4: what a call answers hangs on its arguments alone, whoever else calls with the same ones.
func TestManyHands(t *testing.T) {
	g := give()
	want := g.answers()
	var hands sync.WaitGroup
	for range 8 {
		hands.Go(func() {
			got := g.answers()
			g.asks()
			if !slices.EqualFunc(got, want, bytes.Equal) {
				t.Error("one of many hands is told otherwise")
			}
		})
	}
	hands.Wait()
}
