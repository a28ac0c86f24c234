package betree_test

import (
	"fmt"
	"math/bits"
	"slices"
	"strings"
	"testing"

	"banyan/api"
)

// small are trees by hand of all shapes within three levels of few pages, with messages of all sorts.
func small() []wood {
	long := strings.Repeat("l", 31)
	return []wood{
		twig(),
		twig("m"),
		fat("d", "m", "t"),
		fork("m", twig("d"), twig("t")),
		fork("m", twig("d"), twig("t")).with("1-d 2-t"),
		fork("m", twig("d"), twig("t")).with("1-a:m 1-m:zz"),
		fork("m", fat("b", "d", "f"), fat("p", "t", "v")).with("1-b 3+c=c 5-d:g 7+m=m 8-p 10-t:w"),
		fork("m", twig("d"), fat("p", "t", "v")).with("1+d=1 2+d=2 4-d"),
		fork("m", fat("b", "d", "f"), twig("t")).with("7-b:h 8+c=8 3-t"),
		fork("f m t", twig("d"), twig("f", "k"), fat("p", "q", "r"), twig("t")).with("1-d 9-f:l 9-m:t 2+tt=2"),
		fork("m", fork("f", twig("d"), twig("g")), fork("t", twig("p"), twig("w"))).with("9-d 9-p"),
		fork("m", fork("f", twig("d"), twig("g")), fork("t", twig("p"), twig("w")).with("3-p 4-w")).with("9-b:m 9-m:q"),
		fork("m", fork("f", twig("d"), twig("g")).with("1-d 2-g"), fork("t", twig("p"), twig("w")).with("5-p 6-w")),
		fork("m", fork("f", fat("b", "c", "d"), fat("g", "h", "i")).with("5-b:e 4+h=h"), fork("t", fat("m", "n", "o"), fat("w", "x", "y")).with("2-n 3-x:z")).with("8-c 9-i:l 6+mm=m 7-o:t"),
		fork("i q", fork("d", twig("b"), twig("f")).with("1-b"), fork("k m o", twig("j"), twig("l"), twig("n"), twig("p")).with("5-j 6-l 7-n 8-p"), fork("t", twig("r"), twig("u"))),
		fork("m", fork("f", fork("d", twig("b"), twig("e")).with("2-b"), fork("i", twig("g"), twig("k"))).with("3-e:f 3-g"), fork("t", fork("p", twig("n"), twig("q")).with("1+o=o"), fork("w", twig("u"), twig("z"))).with("2-n:p")).with("5-b:l 5-m:zz"),
		fork("a"+long+" b"+long+" c"+long, fat("a"), twig("a"+long, "am"+long[:20]), twig("bm"), twig("c"+long, "d"+long)).with("4+a" + long[:30] + "=x 5-bm"),
		// Stamps that messages above have too: of ranges that do not meet.
		fork("m", fork("f", twig("d"), twig("g")).with("5-b:c 7-f:g"), fork("t", twig("p"), twig("w"))).with("5-c:e 7-h:k"),
		fork("m", fork("f", twig("d"), twig("g")).with("5-b:c"), fork("t", twig("p"), twig("w")).with("5-p:q 5-u:w")).with("6-c:d 5-o:p"),
	}
}

// P17.1, P17.2: each key of small trees by hand is put, also beside others, and taken away; each range is; also where there is no room for messages in the root.
func TestSmallTrees(t *testing.T) {
	for i, w := range small() {
		for _, much := range []int{0, 120} {
			what := fmt.Sprint("small tree ", i, much)
			t.Run(what, func(t *testing.T) {
				t.Parallel()
				x := grown(t, 512, 64, w, policies()[i%len(policies())], true)
				for n := 0; n < much; n += 40 {
					x.put(fmt.Sprint("much ", n), strings.Repeat("x", 40))
				}
				x.commit()
				x.sound(what)
				x.small(what, w)
			})
		}
	}
}

// small does all changes of a small tree, each by itself.
func (x *trial) small(what string, w wood) {
	x.t.Helper()
	ends := append(w.separators(), "a", "z", "\xff")
	for key := range x.now {
		ends = append(ends, key)
		if len(key) < 32 {
			ends = append(ends, key+"\x00")
		}
	}
	slices.Sort(ends)
	ends = slices.Compact(ends)
	for _, key := range ends {
		gets(x.t, what, x.b, x.now, key)
		x.tried(what+": Put", func() { x.put(key, "") })
		x.tried(what+": Put", func() { x.put(key, strings.Repeat("w", 128)) })
		x.tried(what+": Put twice", func() {
			x.put(key, strings.Repeat("w", 128))
			x.put(key+"\x01"[:min(1, 32-len(key))], strings.Repeat("u", 128))
		})
		x.tried(what+": Delete", func() { x.del(key) })
		x.tried(what+": Delete, Flush", func() { x.del(key); x.flush() })
		x.tried(what+": DeleteRange", func() { x.cut(from(key)) })
		x.tried(what+": DeleteRange", func() { x.cut(span("", key)) })
		for _, hi := range ends {
			x.tried(what+": DeleteRange", func() { x.cut(span(key, hi)) })
		}
	}
	x.tried(what+": DeleteRange", func() { x.cut(from("")) })
	x.tried(what+": Flush", func() { x.flush() })
}

// A DeleteRange that leaves nodes with one child, with messages for which there is no room beside: all is as it must be.
func TestCrowded(t *testing.T) {
	many := func(stamp int, first byte, n int, long int) []api.Msg {
		var l []api.Msg
		for i := range n {
			l = append(l, api.Msg{Stamp: uint64(stamp + i), Kind: api.Put, Lo: []byte{first, byte('a' + i)}, Value: make([]byte, long)})
		}
		return l
	}
	for _, n := range []int{2, 4, 5} {
		left := fork("c", twig("a"), twig("c"))
		left.msgs = many(10, 'a', n, 60)
		right := fork("t", twig("m"), twig("t"))
		right.msgs = many(30, 'n', n, 60)
		other := fork("y", twig("x"), twig("y"))
		other.msgs = append(many(20, 'x', 2, 60), many(40, 'y', 3, 60)...)
		w := fork("k w", left, right, other)
		w.msgs = append(append(many(50, 'b', 2, 70), many(60, 'o', 2, 60)...), many(70, 'z', 1, 80)...)
		for i, p := range policies() {
			x := grown(t, 512, 100, w, p, true)
			if l := x.sound("crowded"); l.high != 2 {
				t.Fatalf("High: %d", l.high)
			}
			for _, lo := range []string{"", "aaa", "c", "e", "m", "ob", "s", "x"} {
				for _, hi := range []string{"c", "m", "oa", "t", "u", "x", "y", "zz"} {
					x.tried(fmt.Sprint("crowded ", n, i, lo, hi), func() { x.cut(span(lo, hi)) })
					x.tried(fmt.Sprint("crowded ", n, i, lo, hi), func() { x.cut(span(lo, hi)); x.del("b"); x.put("q", strings.Repeat("q", 120)) })
				}
			}
			for _, key := range []string{"a", "c", "m", "t", "x", "y"} {
				x.tried("crowded: Delete", func() { x.del(key); x.put("q", strings.Repeat("q", 120)); x.flush() })
			}
		}
	}
}

// B2, T7: Get reads High + 1 blocks at most, and writes none; Scan and High write none, and High is at most the logarithm.
func TestShortWays(t *testing.T) {
	f := &forest{dice: new(dice), size: 512}
	trees := []*trial{begun(t, 512, 64, greedy())}
	for high := range 4 {
		trees = append(trees, grown(t, 512, 20000, f.tree(high, 20), greedy(), true))
	}
	many := begun(t, 512, 2000, greedy())
	for i := range 400 {
		many.put(fmt.Sprint("key ", i*7%400), strings.Repeat("v", 60))
	}
	many.commit()
	for i := range 390 {
		many.del(fmt.Sprint("key ", i*11%400))
		many.commit()
		if l := many.sound("fewer and fewer"); l.high > bits.Len(uint(l.entries))-1 {
			t.Fatalf("High is %d of %d", l.high, l.entries)
		}
		if i%30 == 0 {
			many.short(f.dice)
		}
	}
	for _, x := range trees {
		x.short(f.dice)
	}
}

// short counts what Get, Scan and High read and write.
func (x *trial) short(r *dice) {
	x.t.Helper()
	l := x.sound("short ways")
	keys := x.now.keys(from(""))
	for i := range min(200, len(keys)+20) {
		key := r.key(x.s.Size())
		if i < len(keys) {
			key = keys[(i*97+13)%len(keys)]
		}
		reads, writes := x.d.Count()
		gets(x.t, "short ways", x.b, x.now, key)
		if n, w := x.d.Count(); n > reads+uint64(l.high)+1 || w != writes {
			x.t.Fatalf("Get reads %d, writes %d, High is %d", n-reads, w-writes, l.high)
		}
	}
	_, writes := x.d.Count()
	tells(x.t, "short ways", x.b, x.now, from(""))
	tells(x.t, "short ways", x.b, x.now, r.span(x.s.Size()))
	x.b.High()
	if _, w := x.d.Count(); w != writes {
		x.t.Fatalf("Scan writes %d", w-writes)
	}
}

// A tree does not become high of little: what stays behind many Deletes and a Flush stands in few pages.
func TestStaysLow(t *testing.T) {
	x := begun(t, 512, 4000, greedy())
	key := func(i int) string { return fmt.Sprintf("%06d", i) }
	for i := range 3000 {
		x.put(key(i), "0123456789")
	}
	x.commit()
	for i := range 3000 {
		if i%50 != 7 {
			x.del(key(i))
		}
		if i%100 == 0 {
			x.commit()
		}
	}
	x.flush()
	l := x.sound("few stay")
	if l.leaves > 20 || l.high > 3 {
		t.Errorf("%d entries have %d leaves, High %d", l.entries, l.leaves, l.high)
	}
}

// Messages do wait in all levels, by each policy.
func TestWaitsInAllLevels(t *testing.T) {
	for _, p := range policies() {
		x := begun(t, 512, 6000, p)
		var r dice
		for range 900 {
			x.put(strings.Repeat("k", 25)+fmt.Sprint(r.below(1<<20)), strings.Repeat("v", 50))
		}
		levels := map[int]int{}
		x.eachNode(func(depth int, b api.Buffered) { levels[depth] += len(b.Msgs) })
		if l := x.sound("many"); l.high < 3 || levels[0] == 0 || levels[1] == 0 || levels[2] == 0 {
			t.Errorf("%v: High %d, messages %v", p, l.high, levels)
		}
	}
}

// Where nodes are joined, or a root goes, messages keep to the half of the room of a node: what has none is brought down.
func TestJoinedHalves(t *testing.T) {
	heavy := func(w wood, stamp int, key string) wood {
		return w.with(fmt.Sprintf("%d+%s=%s", stamp, key, strings.Repeat("w", 120)))
	}
	a := heavy(fork("c", twig("a", "b"), twig("c", "d")), 1, "cc")
	b := heavy(fork("p", twig("m", "n"), twig("p", "q")), 2, "mm")
	c := heavy(fork("v", twig("t", "u"), twig("v", "w")), 3, "vv")
	for _, w := range []wood{fork("m", a, b), fork("m t", a, b, c), heavy(fork("m t", a, b, c), 9, "dd"), heavy(fork("m", a, b), 9, "pp")} {
		x := grown(t, 512, 200, w, greedy(), true)
		for _, lo := range []string{"", "a", "aa", "b", "c", "d", "m", "n", "p", "t", "v"} {
			for _, hi := range []string{"aa", "b", "c", "d", "m", "n", "p", "pq", "t", "u", "v", "zz"} {
				x.tried("joined", func() { x.cut(span(lo, hi)); x.halved() })
			}
		}
	}
}

// A leaf for which many messages wait in all levels above becomes as many leaves as it needs, at once: by a Flush, and where a range ends in it.
func TestManyLeavesOfOne(t *testing.T) {
	stamp := 0
	puts := func(w wood, round int) wood {
		for i := range 3 {
			stamp++
			w = w.with(fmt.Sprintf("%d+m%d%d=%s", stamp, i, round, strings.Repeat("w", 120)))
		}
		return w
	}
	w := puts(fork("f t", twig("d"), fat("m", "p", "r"), twig("t")), 1)
	w = puts(fork("b z", fork("am", twig("a"), twig("an")), w, fork("zz", twig("z"), twig("zz"))), 2)
	w = puts(fork("\xfa", w, fork("\xfc", fork("\xfb", twig("\xfa"), twig("\xfb")), fork("\xfd", twig("\xfc"), twig("\xfd")))), 3)
	for _, p := range policies() {
		x := grown(t, 512, 200, w, p, true)
		if l := x.sound("one leaf"); l.high != 3 || len(x.now) != 22 {
			t.Fatalf("High is %d, of %d", l.high, len(x.now))
		}
		// Just so much is left as is enough.
		x.fill(atMost(3))
		x.commit()
		x.tried("Flush", func() { x.flush() })
		for _, lo := range []string{"m02", "m1", "q"} {
			for _, hi := range []string{"m21", "n", "t", "zzz"} {
				x.tried("DeleteRange", func() { x.cut(span(lo, hi)) })
			}
			x.tried("DeleteRange", func() { x.cut(span("e", lo)) })
		}
		for i := range 20 {
			x.put(fmt.Sprint("m", i), strings.Repeat("x", 120))
			x.sound("Put")
		}
		tellsAll(t, "many leaves of one", x.b, x.now)
	}
}
