package pages_test

import (
	"bytes"
	"fmt"
	"slices"
	"strings"
	"sync"
	"testing"

	"banyan/api"
	"banyan/pages"
)

// spoil writes into a list and into its spare room.
func spoil[T any](list []T, by T) {
	list = list[:cap(list)]
	for i := range list {
		list[i] = by
	}
}

// P3: payloads and metas that are handed in, and what stands behind them, are not written into, nor kept.
func TestArgumentsAreLeft(t *testing.T) {
	x := begun(t, 512, 64)
	room := bytes.Repeat([]byte("abcd"), 200)
	asked := slices.Clone(room)
	p, err := x.s.New(api.Leaf, room[:7])
	want(t, "New", err, api.OK)
	q, err := x.s.New(api.Node, room[:0])
	want(t, "New", err, api.OK)
	q, err = x.s.Set(q, room[3:483])
	want(t, "Set", err, api.OK)
	want(t, "SetMeta", x.s.SetMeta(room[1:60]), api.OK)
	if !slices.Equal(room, asked) {
		t.Fatal("what is handed in is written into")
	}
	spoil(room, 'x')
	x.now.meta = string(asked[1:60])
	x.now.pages[p] = leaf{api.Leaf, string(asked[:7]), 2}
	x.now.pages[q] = leaf{api.Node, string(asked[3:483]), 2}
	x.holds("what was handed in was spoilt")
	x.commit(x.s)
	spoil(room, 'y')
	x.holds("committed")
	room = slices.Clone(asked)
	to, err := x.s.Set(p, room[:9])
	want(t, "Set", err, api.OK)
	if !slices.Equal(room, asked) {
		t.Fatal("what is handed in is written into")
	}
	spoil(room, 'z')
	delete(x.now.pages, p)
	x.now.pages[to] = leaf{api.Leaf, string(asked[:9]), 3}
	x.commit(x.s)
	x.holds("what was handed in was spoilt")
}

// P3: answers are new memory: a store does not change with them, nor one with another.
func TestAnswersAreNew(t *testing.T) {
	x := begun(t, 512, 64)
	p, _ := x.make(x.s, api.Leaf, "committed")
	x.setMeta(x.s, "meta")
	x.commit(x.s)
	x.snap(x.s, "s")
	x.snap(x.s, "t")
	x.commit(x.s)
	q, _ := x.make(x.s, api.Leaf, "not yet")
	old, err := x.s.At("s")
	want(t, "At", err, api.OK)
	b := x.see(x.s, p)
	for _, s := range []*pages.Store{x.s, old, b} {
		for _, n := range []int{p, q} {
			_, one, _ := s.Get(n)
			_, other, _ := s.Get(n)
			kept := string(other)
			spoil(one, 'x')
			if string(other) != kept {
				t.Fatal("payloads change with others")
			}
		}
		meta, live, snaps := s.Meta(), s.Live(), s.Snaps()
		otherMeta, otherLive, otherSnaps := s.Meta(), s.Live(), s.Snaps()
		spoil(meta, 'x')
		spoil(live, -7)
		spoil(snaps, "x")
		if string(otherMeta) != "meta" || slices.Contains(otherLive, -7) || slices.Contains(otherSnaps, "x") {
			t.Fatal("answers change with others")
		}
		x.holds("answers were spoilt")
	}
	x.commit(x.s)
	x.holds("committed")
	x.setMeta(x.s, "")
	x.abort(x.s)
	x.holds("taken back")
}

// P3: an answer stays as it was, whatever is done to the store.
func TestAnswersStay(t *testing.T) {
	x := begun(t, 512, 64)
	p, _ := x.make(x.s, api.Leaf, "first")
	x.setMeta(x.s, "meta")
	x.commit(x.s)
	x.snap(x.s, "s")
	q, _ := x.make(x.s, api.Leaf, "second")
	_, first, _ := x.s.Get(p)
	_, second, _ := x.s.Get(q)
	meta, live, snaps := x.s.Meta(), x.s.Live(), x.s.Snaps()
	asked := slices.Clone(live)
	x.set(x.s, p, "other")
	x.set(x.s, q, "others")
	x.setMeta(x.s, "temp")
	x.unsnap(x.s, "s")
	x.snap(x.s, "a")
	x.commit(x.s)
	x.free(x.s, q)
	x.commit(x.s)
	if string(first) != "first" || string(second) != "second" || string(meta) != "meta" {
		t.Errorf("bytes have changed: %q, %q, %q", first, second, meta)
	}
	if !slices.Equal(live, asked) || !slices.Equal(snaps, []string{"s"}) {
		t.Errorf("lists have changed: %v, %q", live, snaps)
	}
}

// Several hands ask Get of one store and of its snapshots at once.
func TestManyHandsGet(t *testing.T) {
	x := rich(t, 512)
	for _, n := range x.now.live()[:20] {
		x.set(x.s, n, "not committed")
	}
	old, err := x.s.At("sixteen-letters4")
	want(t, "At", err, api.OK)
	b := x.see(x.s, x.now.live()[0])
	var hands sync.WaitGroup
	for hand := range 8 {
		hands.Go(func() {
			for range 3 {
				for n := range 200 {
					n = (n + hand*31) % 200
					getIs(t, x.s, x.now, n)
					getIs(t, b, x.now, n)
					getIs(t, old, x.now.snaps["sixteen-letters4"], n)
				}
			}
		})
	}
	hands.Wait()
	x.holds("read by many hands")
}

// getIs holds Get against a state; one of many hands may not end a test.
func getIs(t *testing.T, s *pages.Store, asked status, n int) {
	kind, payload, err := s.Get(n)
	p, there := asked.pages[n]
	if !there && err != api.ErrPagesNone || there && (err != api.OK || kind != p.kind || string(payload) != p.payload) {
		t.Errorf("one of many hands is told otherwise: %v, %q, %v", kind, payload, err)
	}
}

// P4: stores have nothing to do with one another: many hands, each on its own, go as one goes alone.
func TestManyHands(t *testing.T) {
	told := make([]string, 8)
	var hands sync.WaitGroup
	for hand := range told {
		hands.Go(func() { told[hand] = story(t) })
	}
	hands.Wait()
	for _, s := range told {
		if s != told[0] || s == "" {
			t.Errorf("one of many hands is told otherwise: %q, %q", s, told[0])
		}
	}
}

// story is what some calls answer.
func story(t *testing.T) string {
	d := device(t, 512, 60)
	s, _ := pages.Format(d)
	r := dice(17)
	var b strings.Builder
	for i := range 400 {
		live := s.Live()
		n := one(&r, live)
		switch r.roll(0, 7) {
		case 0, 1:
			m, err := s.New(api.Leaf, []byte(r.text(9)))
			fmt.Fprint(&b, m, err, " ")
		case 2, 3:
			m, err := s.Set(n, []byte(r.text(9)))
			fmt.Fprint(&b, m, err, " ")
		case 4:
			fmt.Fprint(&b, s.Free(n), " ")
		case 5:
			fmt.Fprint(&b, s.Commit(), s.Left(), " ")
		case 6:
			fmt.Fprint(&b, s.Snap(fmt.Sprint("s", i)), s.Snaps(), " ")
		case 7:
			kind, payload, err := s.Get(n)
			fmt.Fprint(&b, kind, payload, err, " ")
		}
	}
	return b.String()
}
