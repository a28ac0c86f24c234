package betree_test

import (
	"fmt"
	"strings"
	"testing"

	"banyan/api"
	"banyan/msg"
)

// near is a key that is there, if there is one, or one right behind it, or any.
func (x *trial) near(r *dice) string {
	keys := x.now.keys(from(""))
	size := x.s.Size()
	if len(keys) == 0 || r.below(3) == 0 {
		return r.key(size)
	}
	key := one(r, keys)
	if r.below(3) == 0 && len(key) < size/16 {
		return key + r.text(1)
	}
	return key
}

// thrown does a thrown call; the more, the more keys there are. It holds what is answered against the map.
func (x *trial) thrown(r *dice, more int) {
	x.t.Helper()
	size := x.s.Size()
	switch what := r.below(100); {
	case what < 2:
		x.commit()
	case what < 3:
		x.abort()
	case what < 4:
		x.commit()
		x.reopen()
	case what < 6:
		lo := x.near(r)
		x.cut(api.Range{Lo: []byte(lo), Hi: []byte(x.near(r))})
	case what < 7:
		x.cut(api.Range{Lo: []byte(x.near(r)), Hi: []byte(r.key(size)), All: r.below(4) == 0})
	case what < 9:
		key := x.near(r)
		x.cut(span(key, key+"\x00"[:min(1, size/16-len(key))]))
	case what < 10:
		if r.below(4) == 0 {
			x.flush()
		}
	case what < 10+more:
		x.put(x.near(r), r.value(size))
	default:
		x.del(x.near(r))
	}
	gets(x.t, "thrown", x.b, x.now, x.near(r))
}

// halved holds the nodes of a tree that this layer's calls have made against what lets them be cut at any time: messages have no more than the half of their room.
func (x *trial) halved() {
	x.t.Helper()
	x.eachNode(func(depth int, b api.Buffered) {
		if n := msg.Bytes(b.Msgs); n > (x.s.Size()-32)/2 {
			x.t.Fatalf("messages have %d bytes in a node at the depth %d", n, depth)
		}
	})
}

// P17.1, P17.2, P17.3: thrown calls, at all sizes, by all policies, on devices that run full and others.
func TestThrown(t *testing.T) {
	for _, size := range sizes {
		for i, blocks := range []int{18, 30, 60, 120, 2000} {
			for j, p := range policies() {
				t.Run(fmt.Sprint(size, blocks, p.Kind, j), func(t *testing.T) {
					t.Parallel()
					r := dice(size + i + j)
					x := begun(t, size, blocks, p)
					for n := range 600 {
						x.thrown(&r, []int{75, 50, 20}[n/100%3])
						if n%10 == 0 {
							x.halved()
							x.sound("thrown")
							tells(t, "thrown", x.b, x.now, r.span(size))
						}
					}
					x.sound("thrown")
					x.halved()
					tellsAll(t, "thrown", x.b, x.now)
					x.commit()
					x.reopen()
					x.sound("opened anew")
					tellsAll(t, "opened anew", x.b, x.now)
				})
			}
		}
	}
}

// P17.1: many keys, put and deleted rising, falling and in between.
func TestMany(t *testing.T) {
	const count = 1500
	key := func(i int) string { return fmt.Sprintf("key %05d", i) }
	roads := map[string]func(int) int{
		"rising":  func(i int) int { return i },
		"falling": func(i int) int { return count - 1 - i },
		"mixed":   func(i int) int { return i * 677 % count },
	}
	for there, put := range roads {
		for gone, del := range roads {
			what := there + ", then " + gone
			t.Run(what, func(t *testing.T) {
				t.Parallel()
				x := begun(t, 512, 4000, api.Policy{Kind: api.Greedy})
				for i := range count {
					x.put(key(put(i)), strings.Repeat("v", i%100))
				}
				if l := x.sound(what); l.high < 2 {
					t.Errorf("%s: High is but %d", what, l.high)
				}
				tellsAll(t, what, x.b, x.now)
				x.commit()
				for i := range count {
					x.del(key(del(i)))
					if i%97 == 0 {
						x.sound(what)
						tells(t, what, x.b, x.now, from(""))
					}
				}
				x.sound(what)
				tells(t, what, x.b, x.now, from(""))
				x.flush()
				if l := x.sound(what); l.high != 0 {
					t.Errorf("%s: High is %d of nothing", what, l.high)
				}
			})
		}
	}
}
