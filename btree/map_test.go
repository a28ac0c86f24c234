package btree_test

import (
	"fmt"
	"math/bits"
	"slices"
	"strings"
	"testing"

	"banyan/api"
	"banyan/btree"
	"banyan/leaf"
)

// near is a key that is there, if there is one, or one right behind it, or any.
func (x *trial) near(r *dice) string {
	keys := x.now.keys(from(""))
	size := x.s.Size()
	if len(keys) == 0 || r.below(3) == 0 {
		return r.key(size)
	}
	key := one(r, keys)
	if r.below(3) == 0 && len(key) < size/16 {
		return key + r.text(1)
	}
	return key
}

// thrown does a thrown call; the more, the more keys there are. It holds what is answered against the map.
func (x *trial) thrown(r *dice, more int) {
	x.t.Helper()
	size := x.s.Size()
	switch what := r.below(100); {
	case what < 2:
		x.commit()
	case what < 3:
		x.abort()
	case what < 4:
		x.commit()
		x.reopen()
	case what < 6:
		lo := x.near(r)
		x.cut(api.Range{Lo: []byte(lo), Hi: []byte(x.near(r))})
	case what < 7:
		x.cut(api.Range{Lo: []byte(x.near(r)), Hi: []byte(r.key(size)), All: r.below(4) == 0})
	case what < 10:
		key := x.near(r)
		x.cut(span(key, key+"\x00"[:min(1, size/16-len(key))]))
	case what < 10+more:
		x.put(x.near(r), r.value(size))
	default:
		x.del(x.near(r))
	}
	gets(x.t, "thrown", x.b, x.now, x.near(r))
}

// P14.1, P14.2: thrown calls, at all sizes, on devices that run full and others.
func TestThrown(t *testing.T) {
	for _, size := range sizes {
		for i, blocks := range []int{18, 30, 60, 120, 2000} {
			r := dice(size + i)
			x := begun(t, size, blocks)
			for n := range 900 {
				x.thrown(&r, []int{75, 50, 20}[n/150%3])
				if n%10 == 0 {
					x.sound("thrown")
					tells(t, "thrown", x.b, x.now, r.span(size))
				}
			}
			x.sound("thrown")
			tellsAll(t, "thrown", x.b, x.now)
			x.commit()
			x.reopen()
			x.sound("opened anew")
			tellsAll(t, "opened anew", x.b, x.now)
		}
	}
}

// P14.1: many keys, put and deleted rising, falling and in between.
func TestMany(t *testing.T) {
	const count = 1500
	key := func(i int) string { return fmt.Sprintf("key %05d", i) }
	roads := map[string]func(int) int{
		"rising":  func(i int) int { return i },
		"falling": func(i int) int { return count - 1 - i },
		"mixed":   func(i int) int { return i * 677 % count },
	}
	for there, put := range roads {
		for gone, del := range roads {
			what := there + ", then " + gone
			x := begun(t, 512, 4000)
			for i := range count {
				x.put(key(put(i)), strings.Repeat("v", i%100))
			}
			if l := x.sound(what); l.high < 2 {
				t.Errorf("%s: High is but %d", what, l.high)
			}
			tellsAll(t, what, x.b, x.now)
			x.commit()
			for i := range count {
				x.del(key(del(i)))
				if i%97 == 0 {
					x.sound(what)
					tells(t, what, x.b, x.now, from(""))
				}
			}
			if l := x.sound(what); l.high != 0 {
				t.Errorf("%s: High is %d of nothing", what, l.high)
			}
		}
	}
}

// tried does a change of a committed tree, holds all against the map, and takes it back.
func (x *trial) tried(what string, change func()) {
	x.t.Helper()
	change()
	x.sound(what)
	if len(x.now) < 100 {
		tells(x.t, what, x.b, x.now, from(""))
	}
	x.abort()
}

// small are trees by hand of all shapes within three levels of few pages.
func small() []wood {
	long := strings.Repeat("l", 31)
	fat := func(keys ...string) wood {
		w := twig(keys...)
		for i := range w.leaf {
			w.leaf[i].Value = []byte(strings.Repeat("v", 128))
		}
		return w
	}
	return []wood{
		twig(),
		twig("m"),
		fat("d", "m", "t"),
		fork("m", twig("d"), twig("t")),
		fork("m", fat("b", "d", "f"), fat("p", "t", "v")),
		fork("m", twig("d"), fat("p", "t", "v")),
		fork("m", fat("b", "d", "f"), twig("t")),
		fork("f m t", twig("d"), twig("f", "k"), fat("p", "q", "r"), twig("t")),
		fork("m", fork("f", twig("d"), twig("g")), fork("t", twig("p"), twig("w"))),
		fork("m", fork("f", fat("b", "c", "d"), fat("g", "h", "i")), fork("t", fat("m", "n", "o"), fat("w", "x", "y"))),
		fork("i q", fork("d", twig("b"), twig("f")), fork("k m o", twig("j"), twig("l"), twig("n"), twig("p")), fork("t", twig("r"), twig("u"))),
		fork("m", fork("f", fork("d", twig("b"), twig("e")), fork("i", twig("g"), twig("k"))), fork("t", fork("p", twig("n"), twig("q")), fork("w", twig("u"), twig("z")))),
		fork("a"+long+" b"+long+" c"+long, fat("a"), twig("a"+long, "am"+long[:20]), twig("bm"), twig("c"+long, "d"+long)),
	}
}

// P14.1, P14.2: each key of small trees by hand is put, also beside others, and deleted; each range is.
func TestSmallTrees(t *testing.T) {
	for i, w := range small() {
		x := grown(t, 512, 64, w, true)
		what := fmt.Sprint("small tree ", i)
		x.sound(what)
		ends := append(w.separators(), "a", "z", "\xff")
		for key := range x.now {
			ends = append(ends, key)
			if len(key) < 32 {
				ends = append(ends, key+"\x00")
			}
		}
		slices.Sort(ends)
		ends = slices.Compact(ends)
		for _, key := range ends {
			x.tried(what+": Put", func() { x.put(key, "") })
			x.tried(what+": Put", func() { x.put(key, strings.Repeat("w", 128)) })
			x.tried(what+": Delete", func() { x.del(key) })
			x.tried(what+": DeleteRange", func() { x.cut(from(key)) })
			x.tried(what+": DeleteRange", func() { x.cut(span("", key)) })
			for _, hi := range ends {
				x.tried(what+": DeleteRange", func() { x.cut(span(key, hi)) })
			}
		}
		x.tried(what+": DeleteRange", func() { x.cut(from("")) })
	}
}

// P14.2: trees by hand of several levels, some pages of which are as full as can be, are changed at thrown places.
func TestGrownTrees(t *testing.T) {
	for _, size := range sizes {
		for i, kind := range []struct{ high, full, tries int }{{1, 0, 40}, {1, 100, 30}, {2, 0, 50}, {2, 100, 12}, {2, 50, 20}, {3, 0, 40}, {4, 0, 16}} {
			if size > 512 && (kind.high > 3 || kind.high*kind.full > 50) {
				continue
			}
			r := dice(100*size + i)
			f := &forest{dice: &r, size: size}
			w, _ := f.wood(kind.high, kind.full)
			x := grown(t, size, 20000, w, true)
			what := fmt.Sprint("grown ", kind.high, kind.full)
			if l := x.sound(what); l.high != kind.high {
				t.Fatalf("%s: High is %d", what, l.high)
			}
			ends := x.now.keys(from(""))
			ends = append(ends, w.separators()...)
			slices.Sort(ends)
			for range kind.tries {
				at := r.below(len(ends))
				x.tried(what, func() { x.put(f.between(ends[at]), strings.Repeat("v", r.below(size/4+1))) })
				x.tried(what, func() { x.del(ends[at]) })
				x.tried(what, func() { x.cut(span(ends[at], ends[min(len(ends)-1, at+r.below(12))])) })
				x.tried(what, func() { x.cut(span(ends[at], one(&r, ends))) })
				x.tried(what, func() { x.cut(span(one(&r, ends), ends[at])) })
			}
			x.tried(what, func() { x.cut(from(ends[len(ends)/2])) })
			x.tried(what, func() { x.cut(span("", ends[len(ends)/2])) })
			x.tried(what, func() { x.cut(span(ends[1], ends[len(ends)-1])) })
			// And many changes of one, one behind the other.
			for range 5 * kind.tries {
				x.thrown(&r, 40)
			}
			x.sound(what)
			tellsAll(t, what, x.b, x.now)
		}
	}
}

// between is a key right behind another one: that with the next number, which the forest has not.
func (f *forest) between(key string) string {
	n := int(key[0])<<16 | int(key[1])<<8 | int(key[2])
	return countKey(n+1) + strings.Repeat("y", f.below(f.size/16-2))
}

// P14.2: behind a Delete a longer key may stand between two leaves; a full branch has no room for it.
func TestDeleteOverflows(t *testing.T) {
	near := "b" + strings.Repeat("b", 30)
	thin := wood{leaf: []api.Entry{entry("a", "x"), entry("aa", strings.Repeat("v", 100))}}
	fat := wood{leaf: []api.Entry{entry(near+"c", strings.Repeat("v", 128)), entry(near+"d", strings.Repeat("v", 128)), entry(near+"e", strings.Repeat("v", 128)), entry(near+"f", strings.Repeat("v", 35))}}
	w := wood{below: []wood{thin, fat}, keys: []string{"b"}}
	// These have 2 + 2 * 4 + 3 bytes; with 12 children more with keys of 32 bytes, and one of 5 bytes, the root has 480.
	for i := range 12 {
		key := string([]byte{byte('d' + i)}) + strings.Repeat("k", 31)
		w.below, w.keys = append(w.below, twig(key)), append(w.keys, key)
	}
	w.below, w.keys = append(w.below, twig("zzzzz")), append(w.keys, "zzzzz")
	x := grown(t, 512, 200, w, true)
	_, root, _ := x.s.Get(x.s.Root())
	if bytes := leaf.Bytes(fat.leaf); len(root) != 480 || bytes != 480 {
		t.Fatalf("the root has %d bytes, and a leaf %d, not all", len(root), bytes)
	}
	x.sound("full")
	higher := func(change func()) {
		x.tried("overflow", func() {
			change()
			if high, err := x.b.High(); high != 2 || err != nil {
				t.Errorf("High: %d, %v, want 2", high, err)
			}
		})
	}
	higher(func() { x.del("aa") })
	higher(func() { x.cut(span("aa", "ab")) })
	x.tried("overflow, taken back", func() { x.del("aa"); x.cut(span("b", "c")) })
}

// entry is a key and its value.
func entry(key string, value string) api.Entry {
	return api.Entry{Key: []byte(key), Value: []byte(value)}
}

// bush is a tree by hand of entries: so many a leaf, so many children a branch, or one more or two.
func bush(l []api.Entry, per int, arms int) wood {
	var row []wood
	var firsts []string
	for part := range slices.Chunk(l, per) {
		row, firsts = append(row, wood{leaf: part}), append(firsts, string(part[0].Key))
	}
	for len(row) > 1 {
		var above []wood
		var heads []string
		for at := 0; at < len(row); {
			end := at + arms
			if end+1 >= len(row) {
				end = len(row)
			}
			above = append(above, wood{below: row[at:end], keys: firsts[at+1 : end]})
			heads = append(heads, firsts[at])
			at = end
		}
		row, firsts = above, heads
	}
	if len(row) == 0 {
		return wood{}
	}
	return row[0]
}

// list is the entries of a map, rising.
func (w world) list() []api.Entry {
	var l []api.Entry
	for _, key := range w.keys(from("")) {
		l = append(l, api.Entry{Key: []byte(key), Value: []byte(w[key])})
	}
	return l
}

// roads are ways to come to a tree of a map, each in a store of its own.
func roads(t *testing.T, w world) map[string]*trial {
	t.Helper()
	keys := w.keys(from(""))
	all := map[string]*trial{}
	road := func(name string, walk func(x *trial)) {
		x := begun(t, 512, 3000)
		walk(x)
		x.sound(name)
		all[name] = x
	}
	road("rising", func(x *trial) {
		for _, key := range keys {
			x.put(key, w[key])
		}
	})
	road("falling, committed between", func(x *trial) {
		for _, key := range slices.Backward(keys) {
			x.put(key, w[key])
			x.commit()
		}
	})
	road("values changed", func(x *trial) {
		for i := range keys {
			key := keys[i*31%len(keys)]
			x.put(key, strings.Repeat("other", i%20))
			if w[key] != "" {
				x.put(key, w[key])
			}
		}
		for _, key := range keys {
			x.put(key, w[key])
		}
	})
	road("many that go one by one", func(x *trial) {
		for _, key := range keys {
			x.put(key, w[key])
			x.put(key[:len(key)-1]+"~", strings.Repeat("w", 100))
		}
		for _, key := range keys {
			x.del(key[:len(key)-1] + "~")
			x.put(key, w[key])
		}
	})
	road("many that go at once", func(x *trial) {
		for i := range 700 {
			x.put(fmt.Sprint("~", i), strings.Repeat("w", 100))
			x.put(keys[i%len(keys)], w[keys[i%len(keys)]])
		}
		x.cut(span("~", "~~"))
	})
	road("opened anew", func(x *trial) {
		for _, key := range keys {
			x.put(key, w[key])
		}
		x.commit()
		x.cut(from(""))
		x.reopen()
	})
	all["by hand, high"] = grown(t, 512, 3000, bush(w.list(), 1, 2), true)
	all["by hand, low"] = grown(t, 512, 3000, bush(w.list(), 3, 15), false)
	x := grown(t, 512, 3000, twig("another", "tree"), false)
	s := beside(t, x.s, plant(t, x.s, bush(w.list(), 2, 5))[0])
	all["beside another one"] = &trial{t: t, d: x.d, s: s, b: opened(t, s), now: w}
	return all
}

// P14.4: trees of one map answer alike, however they came to be.
func TestManyRoads(t *testing.T) {
	var r dice
	w := world{}
	for range 120 {
		w[r.key(512)] = r.value(512)
	}
	told := map[string]string{}
	for name, x := range roads(t, w) {
		tellsAll(t, name, x.b, w)
		told[name] = script(x.b, w)
	}
	for name, answers := range told {
		if answers != told["rising"] || len(answers) < 1000 {
			t.Errorf("%s: answers otherwise", name)
		}
	}
}

// script is what calls answer, one behind the other.
func script(b *btree.Tree, w world) string {
	var said strings.Builder
	r := dice(7)
	keys := w.keys(from(""))
	for i := range 400 {
		key := one(&r, keys)
		if r.below(3) == 0 {
			key = r.key(512)
		}
		switch r.below(6) {
		case 0:
			fmt.Fprintln(&said, b.Put([]byte(key), []byte(fmt.Sprint(i))))
		case 1:
			was, err := b.Delete([]byte(key))
			fmt.Fprintln(&said, was, err)
		case 2:
			n, err := b.DeleteRange(span(key, key+"\x00\xff"[:32-max(30, len(key))]))
			fmt.Fprintln(&said, n, err)
		case 3:
			l, err := told(b, r.span(512))
			fmt.Fprintln(&said, l, err)
		default:
			value, there, err := b.Get([]byte(key))
			fmt.Fprintln(&said, value, there, err)
		}
	}
	n, err := b.DeleteRange(span("a", "b"))
	fmt.Fprintln(&said, n, err)
	l, err := told(b, from(""))
	fmt.Fprintln(&said, l, err)
	return said.String()
}

// P14.3: Get reads High + 1 blocks at most, and writes none; Scan writes none, and High is at most the logarithm.
func TestShortWays(t *testing.T) {
	f := &forest{dice: new(dice), size: 512}
	trees := []*trial{begun(t, 512, 64)}
	for high := range 4 {
		w, _ := f.wood(high, 20)
		trees = append(trees, grown(t, 512, 20000, w, true))
	}
	many := begun(t, 512, 2000)
	for i := range 400 {
		many.put(fmt.Sprint("key ", i*7%400), strings.Repeat("v", 60))
	}
	many.commit()
	for i := range 390 {
		many.del(fmt.Sprint("key ", i*11%400))
		many.commit()
		l := many.sound("fewer and fewer")
		if l.high > bits.Len(uint(len(many.now)))-1 {
			t.Fatalf("High is %d of %d", l.high, len(many.now))
		}
		if i%30 == 0 {
			many.short(f.dice)
		}
	}
	for _, x := range trees {
		x.short(f.dice)
	}
}

// short counts what Get and Scan read and write.
func (x *trial) short(r *dice) {
	x.t.Helper()
	l := x.sound("short ways")
	keys := x.now.keys(from(""))
	for i := range min(200, len(keys)+20) {
		key := r.key(x.s.Size())
		if i < len(keys) {
			key = keys[(i*97+13)%len(keys)]
		}
		reads, writes := x.d.Count()
		gets(x.t, "short ways", x.b, x.now, key)
		if n, w := x.d.Count(); n > reads+uint64(l.high)+1 || w != writes {
			x.t.Fatalf("Get reads %d, writes %d, High is %d", n-reads, w-writes, l.high)
		}
	}
	_, writes := x.d.Count()
	tells(x.t, "short ways", x.b, x.now, from(""))
	tells(x.t, "short ways", x.b, x.now, r.span(x.s.Size()))
	if _, w := x.d.Count(); w != writes {
		x.t.Fatalf("Scan writes %d", w-writes)
	}
}

// A tree does not become high of little: what stays behind many Deletes stands in about as few pages as it may.
func TestStaysLow(t *testing.T) {
	x := begun(t, 512, 4000)
	key := func(i int) string { return fmt.Sprintf("%06d", i) }
	for i := range 3000 {
		x.put(key(i), "0123456789")
	}
	x.commit()
	for i := range 3000 {
		if i%50 != 7 {
			x.del(key(i))
		}
		if i%100 == 0 {
			x.commit()
		}
	}
	l := x.sound("few stay")
	least := leaf.Bytes(x.now.list())/480 + 1
	if l.leaves > 8*least || l.high > 2 {
		t.Errorf("%d entries have %d leaves, which %d could be, High %d", len(x.now), l.leaves, least, l.high)
	}
}

// A page has all its room: entries of just so many bytes are one leaf, one byte more makes two.
func TestLeafHasItsRoom(t *testing.T) {
	for _, size := range sizes {
		x := begun(t, size, 200)
		left := size - 32 - 2
		for i := 0; left > 0; i++ {
			long := min(size/4, left-7)
			if left-7-long < 7 && long < left-7 {
				long -= 7
			}
			x.put(string([]byte{byte('a' + i)}), strings.Repeat("v", long))
			left -= 7 + long
		}
		if l := x.sound("a full leaf"); l.high != 0 || leaf.Bytes(x.now.list()) != size-32 {
			t.Errorf("High is %d of %d bytes", l.high, leaf.Bytes(x.now.list()))
		}
		x.put("z", "")
		if l := x.sound("one more"); l.high != 1 {
			t.Errorf("High is %d of %d bytes", l.high, leaf.Bytes(x.now.list()))
		}
	}
}
