package merge_test

import (
	"bytes"
	"slices"
	"sync"
	"testing"

	"banyan/api"
	"banyan/merge"
)

// given is what calls are handed in: keys and values that stand in one piece of memory, each with those behind it as its spare room, and lists with spare room.
type given struct {
	room []byte
	l    []api.Entry
	m    []api.Msg
	r    api.Range
}

func give() *given {
	g := &given{room: []byte("a1b2c3d4e5f6g7h8i9cutgoneputnewspare room")}
	for i := range 9 {
		g.l = append(g.l, api.Entry{Key: g.room[2*i : 2*i+1], Value: g.room[2*i+1 : 2*i+2]})
	}
	g.m = []api.Msg{
		{Kind: api.Put, Lo: g.room[4:6], Value: g.room[25:31]},
		{Kind: api.Del, Lo: g.room[2:3]},
		{Kind: api.DelRange, Lo: g.room[8:9], Hi: g.room[10:11]},
		{Kind: api.Put, Lo: g.room[0:1], Value: g.room[25:31]},
	}
	g.r = api.Range{Lo: g.room[0:1], Hi: g.room[14:15]}
	return g
}

// tellings are some of every kind, made of what is given; seqs is the list that Union was handed in.
func (g *given) tellings() (list []merge.Seq, seqs []merge.Seq) {
	of := merge.Of(g.l[:7])
	plain := func(yield func([]byte, []byte) bool) { // tells the given memory itself
		for _, e := range g.l[:7] {
			if !yield(e.Key, e.Value) {
				return
			}
		}
	}
	seqs = []merge.Seq{of, plain, plain, of}
	return []merge.Seq{of, merge.Union(seqs[:2]), merge.Union(seqs[1:3]), merge.With(plain, g.m[:3]), merge.With(of, g.m[:3]), merge.With(nil, g.m), merge.Within(plain, g.r), merge.Within(of, g.r), merge.Check(plain, nil), merge.Check(of, nil)}, seqs
}

// gathered are all lists of bytes that tellings tell, by loops and by All.
func gathered(list []merge.Seq) [][]byte {
	var all [][]byte
	for _, s := range list {
		for key, value := range s {
			all = append(all, key, value)
		}
		for _, e := range merge.All(s, -1) {
			all = append(all, e.Key, e.Value)
		}
	}
	return all
}

// copies are the same lists of other memory.
func copies(l [][]byte) [][]byte {
	var list [][]byte
	for _, b := range l {
		list = append(list, bytes.Clone(b))
	}
	return list
}

// P3: what is handed in stays as it was, and what stands behind it too.
func TestLeftAlone(t *testing.T) {
	g := give()
	room, l, m := bytes.Clone(g.room), slices.Clone(g.l), len(g.m)
	list, seqs := g.tellings()
	for _, b := range gathered(list) {
		overwrite(b)
	}
	merge.Same(list[0], list[1])
	if !bytes.Equal(g.room, room) {
		t.Errorf("what was handed in was written into: %q", g.room)
	}
	if show(g.l) != show(l) || len(g.m) != m || g.m[3].Kind != api.Put || len(seqs) != 4 {
		t.Error("a list was written into")
	}
	for _, s := range seqs {
		if s == nil {
			t.Error("the list of tellings was written into")
		}
	}
}

// P3: the list that Union is handed in stays as it was, also where some are nil.
func TestUnionLeavesItsList(t *testing.T) {
	a, b := merge.Of(entries("a=1")), merge.Of(entries("b=2"))
	l := []merge.Seq{nil, a, nil, b, a}
	u := merge.Union(l[:4])
	tells(t, "Union", u, entries("a=1 b=2"))
	for i, s := range l {
		if (s == nil) != (i == 0 || i == 2) {
			t.Fatalf("the list was written into at %d", i)
		}
	}
	clear(l)
	tells(t, "Union of a list that was written over", u, entries("a=1 b=2"))
}

// P3: all that is told is new memory: what is written into it, or into its spare room, is seen nowhere else, be it told ahead of it or behind it, by the same telling or another one.
func TestNewMemory(t *testing.T) {
	for _, backward := range []bool{false, true} {
		g := give()
		room := bytes.Clone(g.room)
		list, _ := g.tellings()
		all := append(gathered(list), gathered(list)...)
		if backward {
			slices.Reverse(all)
		}
		old := copies(all)
		for i, b := range all {
			if !bytes.Equal(b, old[i]) {
				t.Fatalf("a list changes with another one: %q, and it was %q", b, old[i])
			}
			overwrite(b)
		}
		if !bytes.Equal(g.room, room) {
			t.Errorf("what is handed in changes with what is told: %q", g.room)
		}
	}
}

// P3: what is told may be written into within the loop: all that is told behind it is as it was.
func TestWrittenInTheLoop(t *testing.T) {
	g := give()
	list, _ := g.tellings()
	for _, x := range makings() {
		list = append(list, x.s)
	}
	for i, s := range list {
		want := told(s)
		var got []api.Entry
		for key, value := range s {
			got = append(got, entry(string(key), string(value)))
			overwrite(key)
			overwrite(value)
		}
		if show(got) != want || told(s) != want {
			t.Errorf("%d: %s, not %s", i, show(got), want)
		}
	}
}

// P3: lists of All are the caller's, with their spare room.
func TestAllIsNew(t *testing.T) {
	s := merge.Of(entries("a=1 b=2 c=3 d=4 e=5"))
	for most := range 6 {
		a, b := merge.All(s, most), merge.All(s, most)
		want := show(a)
		clear(a[:cap(a)])
		if show(b) != want {
			t.Errorf("a list of %d changes with another one: %s", most, show(b))
		}
	}
}

// What is handed in is copied when the call is made: Of's entries, With's messages, Within's range (P3).
func TestCopied(t *testing.T) {
	g := give()
	of := merge.Of(g.l)
	l := []merge.Seq{of, merge.With(of, g.m), merge.Within(of, g.r), merge.With(nil, g.m)}
	var want []string
	for _, s := range l {
		want = append(want, told(s))
	}
	overwrite(g.room)
	clear(g.l)
	clear(g.m)
	for i, s := range l {
		if got := told(s); got != want[i] {
			t.Errorf("%d: changed with what was handed in: %s, not %s", i, got, want[i])
		}
	}
	// Not one that was ranged over already.
	g = give()
	of = merge.Of(g.l)
	l = []merge.Seq{of, merge.With(of, g.m), merge.Within(of, g.r), merge.With(nil, g.m)}
	overwrite(g.room)
	for i, s := range l {
		if got := told(s); got != want[i] {
			t.Errorf("%d: changed ahead of the first loop: %s, not %s", i, got, want[i])
		}
	}
}

// oneRoom tells all its entries, in all its loops, by the same bytes.
func oneRoom(l []api.Entry) merge.Seq {
	key, value := make([]byte, 8), make([]byte, 8)
	return func(yield func([]byte, []byte) bool) {
		for _, e := range l {
			k, v := copy(key, e.Key), copy(value, e.Value)
			if !yield(key[:k], value[:v]) {
				break
			}
		}
		overwrite(key)
		overwrite(value)
	}
}

// What a telling told is written over when it is asked for the next one, or left: what is told on is not.
func TestWrittenOver(t *testing.T) {
	l, k := entries("a=1 b=2 bb=22 c=3"), entries("aa=1 b=5 d=2")
	m := []api.Msg{put("a0", "x"), put("a1", "y"), put("b", "z"), del("c"), put("e", "")}
	for i, x := range []struct {
		s    merge.Seq
		want []api.Entry
	}{
		{merge.Union([]merge.Seq{oneRoom(l)}), l},
		{merge.Union([]merge.Seq{oneRoom(l), oneRoom(k)}), united(l, k)},
		{merge.Union([]merge.Seq{oneRoom(k), oneRoom(l)}), united(k, l)},
		{merge.With(oneRoom(l), m), left(l, m)},
		{merge.Within(oneRoom(l), span("b", "c")), within(l, span("b", "c"))},
		{merge.Check(oneRoom(l), nil), l},
	} {
		tells(t, "written over", x.s, x.want)
		var list []api.Entry
		for key, value := range x.s {
			list = append(list, api.Entry{Key: key, Value: value})
			merge.All(x.s, 2)
		}
		if show(list) != show(x.want) {
			t.Errorf("%d, around itself: %s, not %s", i, show(list), show(x.want))
		}
	}
	if l := merge.All(oneRoom(l), 3); show(l) != show(entries("a=1 b=2 bb=22")) {
		t.Errorf("All: %s", show(l))
	}
	if !merge.Same(oneRoom(l), oneRoom(l)) || merge.Same(oneRoom(l), oneRoom(k)) {
		t.Error("Same")
	}
}

// P4: what is told does not hang on how goroutines run, nor on others that range over tellings of their own.
func TestManyHands(t *testing.T) {
	want := ""
	for _, x := range makings() {
		want += told(x.s)
	}
	var hands sync.WaitGroup
	for range 8 {
		hands.Go(func() {
			for range 20 {
				got := ""
				for _, x := range makings() {
					got += told(x.s)
				}
				if got != want {
					t.Error("one of many hands is told otherwise")
				}
			}
		})
	}
	hands.Wait()
}
