package bulk_test

import (
	"bytes"
	"fmt"
	"maps"
	"slices"
	"testing"

	"banyan/api"
	"banyan/btree"
	"banyan/merge"
	"banyan/pages"
)

// used is an eager tree that goes on being used, and what it must tell.
type used struct {
	t   *testing.T
	s   *pages.Store
	b   *btree.Tree
	now map[string]string
}

// P15.2, P15.4: a tree that Eager made is one of layer 14: it tells its entries, and goes on being used.
func TestUsed(t *testing.T) {
	for _, size := range sizes {
		for round, l := range [][]api.Entry{nil, letters(9, size/4), lonely(size, 60, true), lonely(size, 150, false)} {
			for _, fill := range []int{50, 73, 100} {
				t.Run(fmt.Sprint(size, round, fill), func(t *testing.T) {
					t.Parallel()
					r := dice(size + fill + round)
					u := begin(t, size, l, fill)
					for range 300 {
						u.thrown(&r)
					}
					u.sound()
				})
			}
		}
	}
}

// begin makes a tree, and opens it.
func begin(t *testing.T, size int, l []api.Entry, fill int) *used {
	t.Helper()
	s, _ := format(t, size, 1500)
	made(t, "used", makers()[0], s, l, fill)
	b, err := btree.Open(s)
	if err != api.OK {
		t.Fatalf("Open: %v", err)
	}
	u := &used{t: t, s: s, b: b, now: map[string]string{}}
	for _, e := range l {
		u.now[string(e.Key)] = string(e.Value)
	}
	for key := range u.now {
		u.get(key)
	}
	u.sound()
	return u
}

// get holds what the tree tells of a key against the map.
func (u *used) get(key string) {
	u.t.Helper()
	value, there, err := u.b.Get([]byte(key))
	want, is := u.now[key]
	if string(value) != want || there != is || err != nil {
		u.t.Fatalf("Get of %x: %x, %v, %v", key, value, there, err)
	}
}

// sound holds the whole tree against the map.
func (u *used) sound() {
	u.t.Helper()
	var want []api.Entry
	for _, key := range slices.Sorted(maps.Keys(u.now)) {
		want = append(want, entry(key, u.now[key]))
	}
	var wrong error
	if got := merge.All(u.b.Scan(api.Range{All: true}, &wrong), -1); shown(got) != shown(want) || wrong != nil {
		u.t.Fatalf("Scan: %s, %v, want %s", shown(got), wrong, shown(want))
	}
	tree := look(u.t, "used", u.s, api.Eager, u.s.Root())
	if shown(tree.entries) != shown(want) || !slices.Equal(tree.pages, u.s.Live()) {
		u.t.Fatalf("the leaves have %s, want %s", shown(tree.entries), shown(want))
	}
}

// near is a key that is there, one beside it, or any.
func (u *used) near(r *dice) string {
	keys := slices.Sorted(maps.Keys(u.now))
	if len(keys) == 0 || r.below(4) == 0 {
		return r.key(u.s.Size())
	}
	key := keys[r.below(len(keys))]
	if r.below(2) == 0 && len(key) < u.s.Size()/16 {
		return key + "\x00"
	}
	return key
}

// thrown does one thing with the tree.
func (u *used) thrown(r *dice) {
	u.t.Helper()
	key := u.near(r)
	switch r.below(8) {
	case 0, 1, 2, 3:
		value := r.value(u.s.Size())
		if err := u.b.Put([]byte(key), []byte(value)); err != nil {
			u.t.Fatalf("Put: %v", err)
		}
		u.now[key] = value
	case 4, 5, 6:
		_, is := u.now[key]
		if was, err := u.b.Delete([]byte(key)); was != is || err != nil {
			u.t.Fatalf("Delete of %x: %v, %v", key, was, err)
		}
		delete(u.now, key)
	default:
		hi := append([]byte(key), 0)
		hi = hi[:min(len(hi), u.s.Size()/16)]
		if _, err := u.b.DeleteRange(api.Range{Lo: []byte(key), Hi: hi}); err != nil {
			u.t.Fatalf("DeleteRange: %v", err)
		}
		maps.DeleteFunc(u.now, func(one string, _ string) bool { return one >= key && bytes.Compare([]byte(one), hi) < 0 })
	}
	u.get(key)
	if r.below(10) == 0 {
		u.sound()
	}
}
