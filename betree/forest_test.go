package betree_test

import (
	"bytes"
	"cmp"
	"fmt"
	"slices"
	"strings"
	"testing"

	"banyan/api"
	"banyan/leaf"
	"banyan/msg"
	"banyan/node"
)

// forest makes trees by hand, whose keys rise by a count.
type forest struct {
	*dice
	size  int
	count int
}

// key is the next one; of a count, and some bytes behind it.
func (f *forest) key() string {
	f.count += 2
	long := f.below(f.size/16 - 2)
	if f.below(2) == 0 {
		long = []int{0, f.size/16 - 3}[f.below(2)]
	}
	return countKey(f.count) + strings.Repeat("x", long)
}

// countKey is a count as a beginning of a key.
func countKey(n int) string { return string([]byte{byte(n >> 16), byte(n >> 8), byte(n)}) }

// between is a key right behind another one: that with the next number, which the forest has not.
func (f *forest) between(key string) string {
	n := 0
	for i := range 3 {
		n <<= 8
		if i < len(key) {
			n |= int(key[i])
		}
	}
	return countKey(n+1) + strings.Repeat("y", f.below(f.size/16-2))
}

// wood is a tree so high, and the first key that it has. Its leaves and nodes may be as full as they can be, or have as little as they may.
func (f *forest) wood(high int, full int) (wood, string) {
	if high == 0 {
		return f.leaf(full)
	}
	w, first := f.wood(high-1, full)
	w = wood{below: []wood{w}}
	more := 2 + f.below(3)
	if f.below(100) < full {
		more = 1000
	}
	bytes := 2 + 4
	for len(w.below) < more {
		part, key := f.wood(high-1, full)
		between := key[:3+f.below(len(key)-2)]
		if f.below(3) == 0 {
			between = []string{key, key[:3]}[f.below(2)]
		}
		bytes += 4 + 2 + len(between)
		if bytes > (f.size-32)/2 && len(w.below) >= 2 {
			break
		}
		w.below, w.keys = append(w.below, part), append(w.keys, between)
	}
	return w, first
}

func (f *forest) leaf(full int) (wood, string) {
	var w wood
	more := 1 + f.below(3)
	if f.below(100) < full {
		more = 1000
	}
	for len(w.leaf) < more {
		e := api.Entry{Key: []byte(f.key()), Value: bytes.Repeat([]byte{'v'}, []int{0, 3, f.size / 4}[f.below(3)])}
		l := append(slices.Clone(w.leaf), e)
		if leaf.Bytes(l) > f.size-32 {
			break
		}
		w.leaf = l
	}
	return w, string(w.leaf[0].Key)
}

// waiting lets messages wait in all nodes of a tree: none, few, or as many as can be.
func (f *forest) waiting(w *wood, high int, r api.Range, above []api.Msg, keys []string) {
	if high == 0 {
		return
	}
	k := api.Kids{}
	for _, key := range w.keys {
		k.Keys = append(k.Keys, []byte(key))
	}
	k.Pages = make([]int, len(w.below))
	most := node.Room(f.size, k)
	lists := make([][]api.Msg, len(w.below))
	for range []int{0, 5, 300}[f.below(3)] {
		said := f.message(keys, high, k, r)
		if !f.mayWait(said, lists, above, most) {
			continue
		}
		for i, m := range said {
			if m.Kind != 0 {
				lists[i] = append(lists[i], m)
			}
		}
	}
	for i := range lists {
		slices.SortFunc(lists[i], func(a, b api.Msg) int { return cmp.Compare(a.Stamp, b.Stamp) })
	}
	w.msgs = slices.Concat(lists...)
	for i := range w.below {
		f.waiting(&w.below[i], high-1, within(k, r, i), append(slices.Clip(above), w.msgs...), keys)
	}
}

// message is one that may wait in a node: for each child what it says of that, of the Kind 0 nothing.
func (f *forest) message(keys []string, high int, k api.Kids, r api.Range) []api.Msg {
	m := api.Msg{Kind: api.MsgKind(1 + f.below(2)), Stamp: uint64(1 + f.below(1<<16))}
	if f.below(4) > 0 {
		// What waits further up is younger, mostly by far.
		m.Stamp += uint64(high << 16)
	}
	if f.below(6) == 0 {
		m.Kind = api.DelRange
	}
	key := func() string {
		key := one(f.dice, keys)
		if f.below(3) == 0 {
			key = f.between(key)
		}
		return key
	}
	m.Lo = []byte(key())
	if m.Kind == api.Put {
		m.Value = bytes.Repeat([]byte{'w'}, []int{0, f.below(9), f.below(f.size/4 + 1)}[f.below(3)])
	}
	if m.Kind == api.DelRange {
		m.Hi = []byte(key())
	}
	said := make([]api.Msg, len(k.Pages))
	for i := range said {
		for _, piece := range msg.Within([]api.Msg{m}, within(k, r, i)) {
			said[i] = piece
		}
	}
	return said
}

// mayWait tells whether a message may be put to others.
func (f *forest) mayWait(said []api.Msg, lists [][]api.Msg, above []api.Msg, most int) bool {
	bytes := msg.Bytes(slices.Concat(lists...))
	for i, m := range said {
		if m.Kind == 0 {
			continue
		}
		bytes += msg.Bytes([]api.Msg{m}) - msg.Bytes(nil)
		for _, o := range lists[i] {
			if o.Stamp == m.Stamp {
				return false
			}
		}
		for _, o := range above {
			if common(m, o) && o.Stamp <= m.Stamp {
				return false
			}
		}
	}
	return bytes <= most
}

// tree is a tree by hand so high, with messages in its nodes.
func (f *forest) tree(high int, full int) wood {
	w, _ := f.wood(high, full)
	f.waiting(&w, high, api.Range{All: true}, nil, w.allKeys())
	return w
}

// allKeys are those of all leaves.
func (w wood) allKeys() []string {
	var keys []string
	for _, e := range w.leaf {
		keys = append(keys, string(e.Key))
	}
	for _, one := range w.below {
		keys = append(keys, one.allKeys()...)
	}
	return keys
}

// tried does a change of a committed tree, holds all against the map, and takes it back.
func (x *trial) tried(what string, change func()) {
	x.t.Helper()
	change()
	x.sound(what)
	if len(x.now) < 100 {
		tells(x.t, what, x.b, x.now, from(""))
	}
	x.abort()
}

// P17.1, P17.2: trees by hand of several levels, in whose nodes messages wait, are changed at thrown places.
func TestGrownTrees(t *testing.T) {
	for _, size := range sizes {
		for i, kind := range []struct{ high, full, tries int }{{1, 0, 40}, {1, 100, 30}, {2, 0, 50}, {2, 100, 6}, {2, 50, 12}, {3, 0, 40}, {4, 0, 16}, {1, 0, 40}, {2, 0, 40}, {2, 0, 40}, {3, 0, 40}} {
			if size > 512 && (kind.high > 3 || kind.high*kind.full > 50) {
				continue
			}
			t.Run(fmt.Sprint(size, i), func(t *testing.T) {
				t.Parallel()
				r := dice(100*size + i)
				f := &forest{dice: &r, size: size}
				w := f.tree(kind.high, kind.full)
				p := policies()[i%len(policies())]
				tries := kind.tries
				if size > 512 {
					tries /= 2
				}
				grow(t, f, w, p, kind.high, tries)
			})
		}
	}
}

// grow changes a tree by hand at thrown places: each time as it is, and then one behind the other.
func grow(t *testing.T, f *forest, w wood, p api.Policy, high int, tries int) {
	t.Helper()
	x := grown(t, f.size, 8000, w, p, true)
	if l := x.sound("by hand"); l.high != high {
		t.Fatalf("High is %d", l.high)
	}
	tellsAll(t, "by hand", x.b, x.now)
	ends := append(w.allKeys(), w.separators()...)
	slices.Sort(ends)
	value := func() string { return strings.Repeat("v", f.below(f.size/4+1)) }
	for range tries {
		at := f.below(len(ends))
		x.tried("Put", func() { x.put(f.between(ends[at]), value()) })
		x.tried("Put", func() { x.put(ends[at], value()) })
		x.tried("Delete", func() { x.del(ends[at]) })
		x.tried("DeleteRange", func() { x.cut(span(ends[at], ends[min(len(ends)-1, at+f.below(12))])) })
		x.tried("DeleteRange", func() { x.cut(span(ends[at], one(f.dice, ends))) })
		x.tried("DeleteRange", func() { x.cut(span(one(f.dice, ends), ends[at])) })
		tells(t, "by hand", x.b, x.now, span(ends[at], one(f.dice, ends)))
	}
	x.tried("Flush", func() { x.flush() })
	x.tried("DeleteRange", func() { x.cut(from(ends[len(ends)/2])) })
	x.tried("DeleteRange", func() { x.cut(span("", ends[len(ends)/2])) })
	x.tried("DeleteRange", func() { x.cut(span(ends[1], ends[len(ends)-1])) })
	x.tried("DeleteRange", func() { x.cut(from("")) })
	for i := range 5 * tries {
		x.thrown(f.dice, 40)
		if i%5 == 0 {
			x.put(f.between(one(f.dice, ends)), value())
			x.del(one(f.dice, ends))
		}
	}
	x.sound("changed")
	tellsAll(t, "changed", x.b, x.now)
	x.flush()
	x.sound("flushed")
	tellsAll(t, "flushed", x.b, x.now)
}
