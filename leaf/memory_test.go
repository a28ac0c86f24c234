package leaf_test

import (
	"bytes"
	"slices"
	"strings"
	"sync"
	"testing"

	"banyan/api"
	"banyan/leaf"
)

// given is what calls are handed in: keys and values that stand in one piece of memory, each with those behind it as its spare room, and lists of entries with spare room too.
type given struct {
	room    []byte
	entries []api.Entry
	behind  []api.Entry
	texts   [][]byte
}

// give makes them: of entries that rise, and bytes of which some are a leaf's.
func give() *given {
	keys := []string{"a", "ab", "abc", "b", "ba", "c", "d", strings.Repeat("k", 32)}
	g := &given{}
	encoded, _ := leaf.Encode(512, of("a=1 ab=22 abc= b=3"))
	texts := []string{"\x00\x00", string(encoded), string(encoded[:9]), string(encoded) + "more"}
	g.room = []byte(strings.Join(keys, "value") + "value" + strings.Join(texts, "") + "spare room")
	at := 0
	next := func(n int) []byte {
		at += n
		return g.room[at-n : at]
	}
	for _, key := range keys {
		g.behind = append(g.behind, api.Entry{Key: next(len(key)), Value: next(5)})
	}
	for _, text := range texts {
		g.texts = append(g.texts, next(len(text)))
	}
	g.entries = g.behind[:len(g.behind)-2]
	return g
}

// told is all lists of bytes that entries have.
func told(l []api.Entry) [][]byte {
	var list [][]byte
	for _, e := range l {
		list = append(list, e.Key, e.Value)
	}
	return list
}

// lists are all lists of entries that calls tell.
func (g *given) lists() [][]api.Entry {
	var list [][]api.Entry
	for _, e := range g.behind {
		for n := range len(g.entries) + 1 {
			list = append(list, leaf.Set(g.entries[:n], e))
			left, _ := leaf.Cut(g.entries[:n], api.Range{Lo: e.Key, All: true})
			others, _ := leaf.Cut(g.entries[:n], api.Range{Lo: e.Key, Hi: g.behind[3].Key})
			list = append(list, left, others)
		}
	}
	for _, text := range g.texts {
		l, _ := leaf.Decode(512, text)
		list = append(list, l)
	}
	return list
}

// answers are all lists of bytes that calls tell.
func (g *given) answers() [][]byte {
	var list [][]byte
	for n := range len(g.entries) + 1 {
		b, _ := leaf.Encode(512, g.entries[:n])
		list = append(list, b)
	}
	for _, l := range g.lists() {
		list = append(list, told(l)...)
	}
	return list
}

// asks calls everything that tells none.
func (g *given) asks() {
	for n := range len(g.entries) + 1 {
		leaf.Check(512, g.entries[:n])
		leaf.Bytes(g.entries[:n])
		leaf.Split(512, g.entries[:n])
		for _, e := range g.behind {
			leaf.Find(g.entries[:n], e.Key)
		}
	}
}

// copies are the same lists of other memory.
func copies(l [][]byte) [][]byte {
	var list [][]byte
	for _, b := range l {
		list = append(list, bytes.Clone(b))
	}
	return list
}

// overwrite turns all bytes of a list and of its spare room.
func overwrite(b []byte) {
	b = b[:cap(b)]
	for i := range b {
		b[i] = ^b[i]
	}
}

// P3: what is handed in stays as it was, and what stands behind it too: the bytes, and the list of entries.
func TestLeftAlone(t *testing.T) {
	g := give()
	room, behind := bytes.Clone(g.room), copyOf(g.behind)
	g.asks()
	g.answers()
	if !bytes.Equal(g.room, room) {
		t.Errorf("a key, a value or a text was written into: %q", g.room)
	}
	if !same(g.behind, behind) {
		t.Errorf("the list of entries was written into: %s", show(g.behind))
	}
}

// P3: an answer is new memory: what is written into it, or into its spare room, is seen neither in what was handed in nor in another list, be that one told ahead of it or behind it.
func TestNewMemory(t *testing.T) {
	for _, backward := range []bool{false, true} {
		g := give()
		room := bytes.Clone(g.room)
		all := g.answers()
		if backward {
			slices.Reverse(all)
		}
		old := copies(all)
		for i, b := range all {
			if !bytes.Equal(b, old[i]) {
				t.Fatalf("a list changes with another one: %q, and it was %q", b, old[i])
			}
			overwrite(b)
		}
		if !bytes.Equal(g.room, room) {
			t.Errorf("what is handed in changes with the answers: %q", g.room)
		}
	}
}

// P3: lists of entries are new too: what is written into one, or behind it, is seen neither in the list that was handed in nor in another one.
func TestNewLists(t *testing.T) {
	g := give()
	behind := copyOf(g.behind)
	lists := g.lists()
	var old [][]api.Entry
	for _, l := range lists {
		old = append(old, copyOf(l))
	}
	for i, l := range lists {
		if !same(l, old[i]) {
			t.Fatalf("a list changes with another one: %s, and it was %s", show(l), show(old[i]))
		}
		l = l[:cap(l)]
		for j := range l {
			l[j] = entry("new", "new")
		}
	}
	if !same(g.behind, behind) {
		t.Errorf("the list that was handed in changes with the answers: %s", show(g.behind))
	}
}

// P3: nothing that is handed in is kept: an answer stays as it was, whatever becomes of the bytes and of the list.
func TestNothingKept(t *testing.T) {
	g := give()
	all := g.answers()
	old := copies(all)
	overwrite(g.room)
	clear(g.behind)
	for i, b := range all {
		if !bytes.Equal(b, old[i]) {
			t.Fatalf("a list changes with what was handed in: %q, and it was %q", b, old[i])
		}
	}
}

// P4: what a call answers hangs on its arguments alone, whoever else calls with the same ones.
func TestManyHands(t *testing.T) {
	g := give()
	want := g.answers()
	var hands sync.WaitGroup
	for range 8 {
		hands.Go(func() {
			got := g.answers()
			g.asks()
			if !slices.EqualFunc(got, want, bytes.Equal) {
				t.Error("one of many hands is told otherwise")
			}
		})
	}
	hands.Wait()
}
