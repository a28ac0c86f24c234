package bulk_test

import (
	"bytes"
	"fmt"
	"maps"
	"slices"
	"testing"

	"banyan/api"
	"banyan/betree"
	"banyan/btree"
	"banyan/merge"
	"banyan/pages"
)

// opened is a tree that was opened by layer 14 or 17.
type opened interface {
	Get(key []byte) ([]byte, bool, error)
	Put(key []byte, value []byte) error
	Scan(r api.Range, wrong *error) merge.Seq
}

// used is a tree that goes on being used, and what it must tell.
type used struct {
	t     *testing.T
	s     *pages.Store
	kind  api.TreeKind
	b     opened
	del   func(key []byte) error
	cut   func(r api.Range) error
	flush func() error // so that no message waits
	now   map[string]string
}

// P15.2, P15.4: a tree that Eager made is one of layer 14, one that Lazy made is one of layer 17: it tells its entries, and goes on being used.
func TestUsed(t *testing.T) {
	for _, m := range makers() {
		for _, size := range sizes {
			for round, l := range [][]api.Entry{nil, letters(9, size/4), lonely(size, 60, true), lonely(size, 150, false)} {
				for _, fill := range []int{50, 73, 100} {
					t.Run(fmt.Sprint(m.name, size, round, fill), func(t *testing.T) {
						t.Parallel()
						r := dice(size + fill + round)
						u := begin(t, m, size, l, fill)
						for range 300 {
							u.thrown(&r)
						}
						u.sound()
					})
				}
			}
		}
	}
}

// begin makes a tree, and opens it.
func begin(t *testing.T, m maker, size int, l []api.Entry, fill int) *used {
	t.Helper()
	s, _ := format(t, size, 1500)
	made(t, "used", m, s, l, fill)
	u := &used{t: t, s: s, kind: m.kind, now: map[string]string{}}
	if m.kind == api.Eager {
		u.openEager()
	} else {
		u.openLazy()
	}
	for _, e := range l {
		u.now[string(e.Key)] = string(e.Value)
	}
	for key := range u.now {
		u.get(key)
	}
	u.tells()
	u.sound()
	return u
}

// openEager opens a tree that Eager made.
func (u *used) openEager() {
	u.t.Helper()
	b, err := btree.Open(u.s)
	if err != api.OK {
		u.t.Fatalf("Open: %v", err)
	}
	u.b = b
	u.del = func(key []byte) error {
		_, is := u.now[string(key)]
		was, err := b.Delete(key)
		if was != is {
			u.t.Fatalf("Delete of %x: %v", key, was)
		}
		return err
	}
	u.cut = func(r api.Range) error {
		_, err := b.DeleteRange(r)
		return err
	}
	u.flush = func() error { return nil }
}

// openLazy opens a tree that Lazy made. No message waits in it: so the next one may have the first stamp.
func (u *used) openLazy() {
	u.t.Helper()
	b, err := betree.Open(u.s, api.Policy{Kind: api.Greedy}, 1)
	if err != api.OK {
		u.t.Fatalf("Open: %v", err)
	}
	u.b, u.del, u.cut, u.flush = b, b.Delete, b.DeleteRange, b.Flush
}

// get holds what the tree tells of a key against the map.
func (u *used) get(key string) {
	u.t.Helper()
	value, there, err := u.b.Get([]byte(key))
	want, is := u.now[key]
	if string(value) != want || there != is || err != nil {
		u.t.Fatalf("Get of %x: %x, %v, %v", key, value, there, err)
	}
}

// want is what the tree must tell.
func (u *used) want() string {
	var l []api.Entry
	for _, key := range slices.Sorted(maps.Keys(u.now)) {
		l = append(l, entry(key, u.now[key]))
	}
	return shown(l)
}

// tells holds what the tree tells against the map.
func (u *used) tells() {
	u.t.Helper()
	var wrong error
	if got := shown(merge.All(u.b.Scan(api.Range{All: true}, &wrong), -1)); got != u.want() || wrong != nil {
		u.t.Fatalf("Scan: %s, %v, want %s", got, wrong, u.want())
	}
}

// sound holds the whole tree against the map, when no message waits.
func (u *used) sound() {
	u.t.Helper()
	if err := u.flush(); err != nil {
		u.t.Fatalf("Flush: %v", err)
	}
	u.tells()
	tree := look(u.t, "used", u.s, u.kind, u.s.Root())
	if got := shown(tree.entries); got != u.want() || !slices.Equal(tree.pages, u.s.Live()) {
		u.t.Fatalf("the leaves have %s, want %s", got, u.want())
	}
}

// near is a key that is there, one beside it, or any.
func (u *used) near(r *dice) string {
	keys := slices.Sorted(maps.Keys(u.now))
	if len(keys) == 0 || r.below(4) == 0 {
		return r.key(u.s.Size())
	}
	key := keys[r.below(len(keys))]
	if r.below(2) == 0 && len(key) < u.s.Size()/16 {
		return key + "\x00"
	}
	return key
}

// thrown does one thing with the tree.
func (u *used) thrown(r *dice) {
	u.t.Helper()
	key := u.near(r)
	switch r.below(8) {
	case 0, 1, 2, 3:
		value := r.value(u.s.Size())
		if err := u.b.Put([]byte(key), []byte(value)); err != nil {
			u.t.Fatalf("Put: %v", err)
		}
		u.now[key] = value
	case 4, 5, 6:
		if err := u.del([]byte(key)); err != nil {
			u.t.Fatalf("Delete of %x: %v", key, err)
		}
		delete(u.now, key)
	default:
		hi := append([]byte(key), 0)
		hi = hi[:min(len(hi), u.s.Size()/16)]
		if err := u.cut(api.Range{Lo: []byte(key), Hi: hi}); err != nil {
			u.t.Fatalf("DeleteRange: %v", err)
		}
		maps.DeleteFunc(u.now, func(one string, _ string) bool { return one >= key && bytes.Compare([]byte(one), hi) < 0 })
	}
	u.get(key)
	if r.below(10) == 0 {
		u.tells()
	}
	if r.below(40) == 0 {
		u.sound()
	}
}
