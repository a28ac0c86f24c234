package msg_test

import (
	"bytes"
	"slices"
	"strings"
	"sync"
	"testing"

	"banyan/api"
	"banyan/msg"
)

// given is what calls are handed in: keys, values and texts that stand in one piece of memory, each with those behind it as its spare room, and lists of messages and of entries with spare room too.
type given struct {
	room    []byte
	behind  []api.Msg
	m       []api.Msg
	more    []api.Entry
	entries []api.Entry
	texts   [][]byte
}

// give makes them: messages of all kinds, some that are decided by later ones, some with bytes where none may be.
func give() *given {
	m := of("p1 b=x, r2 a-c, p3 b=y, d4 z, r5 z-zz, r6 e-k, p7 f=, p8 g=value, d9 m, p10 n=1, r11 p-q, d12 x")
	m = append(m, other(1, "nn", "hi", "v"), other(3, "o", "oo", "v"), other(7, "o", "oo", "v"), del(13, "behind"), del(14, "behind"))
	l := entries("b=1 a=2 b=3 f=4 g=5 o=6 zz=7 behind=8")
	encoded, _ := msg.Encode(512, m[:12])
	texts := []string{string(encoded), written(m[:3]), string(encoded[:30]), string(encoded) + "more"}
	var all strings.Builder
	for _, one := range m {
		all.WriteString(string(one.Lo) + string(one.Hi) + string(one.Value))
	}
	for _, e := range l {
		all.WriteString(string(e.Key) + string(e.Value))
	}
	g := &given{room: []byte(all.String() + strings.Join(texts, "") + "spare room")}
	at := 0
	next := func(b []byte) []byte {
		at += len(b)
		return g.room[at-len(b) : at]
	}
	for _, one := range m {
		one.Lo, one.Hi, one.Value = next(one.Lo), next(one.Hi), next(one.Value)
		g.behind = append(g.behind, one)
	}
	for _, e := range l {
		g.more = append(g.more, api.Entry{Key: next(e.Key), Value: next(e.Value)})
	}
	for _, text := range texts {
		g.texts = append(g.texts, next([]byte(text)))
	}
	g.m, g.entries = g.behind[:len(m)-2], g.more[:len(l)-1]
	return g
}

// ranges are some that share memory with the messages.
func (g *given) ranges() []api.Range {
	return []api.Range{{All: true}, {}, {Lo: g.m[1].Lo, Hi: g.m[5].Hi}, {Lo: g.m[0].Lo, Hi: g.m[0].Lo}, {Lo: g.m[7].Lo, All: true}}
}

// lists are all lists of messages that calls tell.
func (g *given) lists() [][]api.Msg {
	var list [][]api.Msg
	for n := range len(g.m) + 1 {
		list = append(list, msg.Settle(g.m[:n]))
		for _, r := range g.ranges() {
			list = append(list, msg.Within(g.m[:n], r))
		}
	}
	for _, text := range g.texts {
		m, _ := msg.Decode(512, text)
		list = append(list, m)
	}
	return list
}

// maps are all lists of entries that calls tell, some of them of a key that is in several places.
func (g *given) maps() [][]api.Entry {
	var list [][]api.Entry
	for n := range len(g.m) + 1 {
		list = append(list, msg.Apply(g.entries, g.m[:n]), msg.Apply(nil, g.m[:n]), msg.Apply(g.entries[:3], nil))
	}
	shared := []api.Entry{g.entries[1], {Key: g.entries[0].Key, Value: g.entries[1].Value}, {Key: g.entries[3].Key, Value: g.entries[1].Value}}
	return append(list, msg.Apply(shared, g.m[7:8]))
}

// pieces are all lists of pieces that calls tell.
func (g *given) pieces() [][]api.Piece {
	var list [][]api.Piece
	for n := range len(g.m) + 1 {
		list = append(list, msg.Meaning(g.m[:n]))
	}
	return list
}

// answers are all lists of bytes that calls tell.
func (g *given) answers() [][]byte {
	var list [][]byte
	for n := range 13 {
		b, _ := msg.Encode(512, g.m[:n])
		list = append(list, b)
	}
	for _, one := range g.behind {
		_, _, value := msg.Get(g.m, one.Lo)
		list = append(list, value)
	}
	for _, m := range g.lists() {
		for _, one := range m {
			list = append(list, one.Lo, one.Hi, one.Value)
		}
	}
	for _, l := range g.maps() {
		for _, e := range l {
			list = append(list, e.Key, e.Value)
		}
	}
	for _, l := range g.pieces() {
		for _, p := range l {
			list = append(list, p.Key, p.Value, p.Gone.Lo, p.Gone.Hi)
		}
	}
	return list
}

// asks calls everything that tells none.
func (g *given) asks() {
	for n := range len(g.m) + 1 {
		msg.Check(512, g.m[:n])
		msg.Bytes(g.m[:n])
	}
}

// copies are the same lists of other memory.
func copies(l [][]byte) [][]byte {
	var list [][]byte
	for _, b := range l {
		list = append(list, bytes.Clone(b))
	}
	return list
}

// overwrite turns all bytes of a list and of its spare room.
func overwrite(b []byte) {
	b = b[:cap(b)]
	for i := range b {
		b[i] = ^b[i]
	}
}

// P3: what is handed in stays as it was, and what stands behind it too: the bytes, the list of messages, the list of entries.
func TestLeftAlone(t *testing.T) {
	g := give()
	room, behind, more := bytes.Clone(g.room), copyOf(g.behind), showEntries(g.more)
	g.asks()
	g.answers()
	if !bytes.Equal(g.room, room) {
		t.Errorf("a key, a value or a text was written into: %q", g.room)
	}
	if !same(g.behind, behind) {
		t.Errorf("the list of messages was written into: %s", show(g.behind))
	}
	if showEntries(g.more) != more {
		t.Errorf("the list of entries was written into: %s", showEntries(g.more))
	}
}

// P3: an answer is new memory: what is written into it, or into its spare room, is seen neither in what was handed in nor in another list, be that one told ahead of it or behind it.
func TestNewMemory(t *testing.T) {
	for _, backward := range []bool{false, true} {
		g := give()
		room := bytes.Clone(g.room)
		all := g.answers()
		if backward {
			slices.Reverse(all)
		}
		old := copies(all)
		for i, b := range all {
			if !bytes.Equal(b, old[i]) {
				t.Fatalf("a list changes with another one: %q, and it was %q", b, old[i])
			}
			overwrite(b)
		}
		if !bytes.Equal(g.room, room) {
			t.Errorf("what is handed in changes with the answers: %q", g.room)
		}
	}
}

// newLists tells of lists that one call behind the other told whether one of them changes when another one, or its spare room, is written into.
func newLists[E any](t *testing.T, lists [][]E, show func([]E) string) {
	t.Helper()
	var old []string
	for _, l := range lists {
		old = append(old, show(l))
	}
	for i, l := range lists {
		if show(l) != old[i] {
			t.Fatalf("a list changes with another one: %s, and it was %s", show(l), old[i])
		}
		clear(l[:cap(l)])
	}
}

// P3: lists of messages, entries and pieces are new too.
func TestNewLists(t *testing.T) {
	g := give()
	behind, more := copyOf(g.behind), showEntries(g.more)
	newLists(t, g.lists(), show)
	newLists(t, g.maps(), showEntries)
	newLists(t, g.pieces(), showPieces)
	if !same(g.behind, behind) || showEntries(g.more) != more {
		t.Errorf("the lists that were handed in change with the answers: %s, %s", show(g.behind), showEntries(g.more))
	}
}

// P3: nothing that is handed in is kept: an answer stays as it was, whatever becomes of the bytes and of the lists.
func TestNothingKept(t *testing.T) {
	g := give()
	all := g.answers()
	old := copies(all)
	overwrite(g.room)
	clear(g.behind)
	clear(g.more)
	for i, b := range all {
		if !bytes.Equal(b, old[i]) {
			t.Fatalf("a list changes with what was handed in: %q, and it was %q", b, old[i])
		}
	}
}

// P4: what a call answers hangs on its arguments alone, whoever else calls with the same ones.
func TestManyHands(t *testing.T) {
	g := give()
	want := g.answers()
	var hands sync.WaitGroup
	for range 8 {
		hands.Go(func() {
			got := g.answers()
			g.asks()
			if !slices.EqualFunc(got, want, bytes.Equal) {
				t.Error("one of many hands is told otherwise")
			}
		})
	}
	hands.Wait()
}
