package betree_test

import (
	"bytes"
	"fmt"
	"maps"
	"reflect"
	"slices"
	"strings"
	"testing"

	"banyan/api"
	"banyan/msg"
	"banyan/node"
	"banyan/pages"
)

// rootOf is a store's root, if it is a node.
func rootOf(t *testing.T, s *pages.Store) (api.Buffered, bool) {
	t.Helper()
	kind, payload, err := s.Get(s.Root())
	if err != api.OK {
		t.Fatalf("the root: %v", err)
	}
	if kind != api.Node {
		return api.Buffered{}, false
	}
	b, err := node.Decode(s.Size(), payload)
	if err != api.OK {
		t.Fatalf("the root: %v", err)
	}
	return b, true
}

// payloads are those of all pages but the root; of many pages, of some of them.
func payloads(s *pages.Store) map[int]string {
	all := map[int]string{}
	live := s.Live()
	for _, n := range live {
		if n == s.Root() {
			continue
		}
		all[n] = ""
		if len(live) < 40 || n%20 == 0 {
			_, payload, _ := s.Get(n)
			all[n] = string(payload)
		}
	}
	return all
}

// P17.5: waits looks at the root ahead of a message, and answers what holds the root behind it, and all other pages, against what they must be, if the message must wait.
func (x *trial) waits(m api.Msg) (held func()) {
	x.t.Helper()
	// Where there are many pages, not each time.
	if len(x.s.Live()) > 30 && m.Stamp%8 != 0 {
		return func() {}
	}
	was, is := rootOf(x.t, x.s)
	if !is || msg.Bytes(append(slices.Clip(was.Msgs), m)) > (x.s.Size()-32)/2 {
		return func() {}
	}
	before := payloads(x.s)
	return func() {
		x.t.Helper()
		now, is := rootOf(x.t, x.s)
		if !is || !reflect.DeepEqual(was.Kids, now.Kids) || !maps.Equal(before, payloads(x.s)) {
			x.t.Fatalf("%q must wait, but the root is a node: %v, of %v, and was of %v", m.Lo, is, now.Kids, was.Kids)
		}
		same := func(o api.Msg) func(api.Msg) bool {
			return func(p api.Msg) bool {
				return o.Stamp == p.Stamp && o.Kind == p.Kind && bytes.Equal(o.Lo, p.Lo) && bytes.Equal(o.Hi, p.Hi) && bytes.Equal(o.Value, p.Value)
			}
		}
		if !slices.ContainsFunc(now.Msgs, same(m)) {
			x.t.Fatalf("%q must wait, but it is not in the root", m.Lo)
		}
		for _, o := range now.Msgs {
			if !same(m)(o) && !slices.ContainsFunc(was.Msgs, same(o)) {
				x.t.Fatalf("the root has a message for %q, and had it not", o.Lo)
			}
		}
		for _, o := range was.Msgs {
			own := bytes.Equal(o.Lo, m.Lo) && (o.Kind != api.DelRange || string(o.Hi) == string(o.Lo)+"\x00")
			if !own && !slices.ContainsFunc(now.Msgs, same(o)) {
				x.t.Fatalf("the root has a message for %q no more", o.Lo)
			}
		}
	}
}

// P17.5: trees of each height, with a root that has just room, or one byte too little.
func TestWaits(t *testing.T) {
	for _, size := range sizes {
		f := &forest{size: size, dice: new(dice)}
		for high := 1; high < 4; high++ {
			w, _ := f.wood(high, 0)
			for left := range 40 {
				x := grown(t, size, 4000, w, greedy(), left%2 == 0)
				x.flush()
				// What waits has 4 bytes, and 13 and those of the key for each message.
				room := (size-32)/2 - 4 - 13 - left
				for i := 0; room > 0; i++ {
					most := min(size/4, room-14)
					if rest := room - 14 - most; rest > 0 && rest < 14 {
						most -= 14
					}
					if room < 14 {
						break
					}
					x.put(string([]byte{byte('!' + i)}), strings.Repeat("v", most))
					room -= 14 + most
				}
				was, _ := rootOf(t, x.s)
				full := (size-32)/2 - msg.Bytes(was.Msgs)
				pages := payloads(x.s)
				key := strings.Repeat("~", min(size/16, max(1, left)))
				x.del(key)
				waited := maps.Equal(pages, payloads(x.s))
				if waited != (13+len(key) <= full) {
					t.Errorf("%d bytes are left, a message has %d: waits: %v", full, 13+len(key), waited)
				}
				x.sound("waits")
				tellsAll(t, "waits", x.b, x.now)
			}
		}
	}
}

// A message takes the place of those of its own key, and of no other one.
func TestOwnKey(t *testing.T) {
	x := grown(t, 512, 64, fork("c", twig("a", "b"), twig("c", "d")).with("2+a=2 3-a 4-aa 6-a:b 7+a=7 8+ab=8 5-c 9-c:d"), greedy(), true)
	for i, key := range []string{"a", "c", "aa", "a", "b", "a"} {
		if i%2 == 0 {
			x.put(key, "new")
		} else {
			x.del(key)
		}
		x.sound(key)
		tellsAll(t, key, x.b, x.now)
	}
}

// crown is a tree of three leaves, for each of which a message waits in the root; one more has no room there.
func crown(t *testing.T, p api.Policy, bytes ...int) *trial {
	t.Helper()
	w := fork("g p", fat("c", "d"), fat("k", "l"), fat("t", "u"))
	for i, n := range bytes {
		w.msgs = append(w.msgs, api.Msg{Stamp: uint64(9 - i), Kind: api.Put, Lo: []byte([]string{"a", "i", "r"}[i]), Value: make([]byte, n)})
	}
	return grown(t, 512, 64, w, p, true)
}

// Of a node that has no room any more that child is served which the policy chooses.
func TestServed(t *testing.T) {
	for _, c := range []struct {
		p      api.Policy
		bytes  []int
		served []string // the keys whose messages are not in the root any more
	}{
		{api.Policy{Kind: api.Greedy}, []int{60, 61, 61}, []string{"i"}},
		{api.Policy{Kind: api.Greedy}, []int{60, 59, 61}, []string{"r"}},
		{api.Policy{Kind: api.Compact}, []int{62, 60, 61}, []string{"a"}},
		{api.Policy{Kind: api.Round}, []int{60, 61, 62}, []string{"a"}},
		{api.Policy{Kind: api.Script}, []int{60, 62, 61}, []string{"i"}},
		{api.Policy{Kind: api.Script, Picks: []int{0}}, []int{60, 61, 62}, []string{"a"}},
		{api.Policy{Kind: api.Script, Picks: []int{4}}, []int{60, 61, 62}, []string{"i"}},
		{api.Policy{Kind: api.Script, Picks: []int{-3}}, []int{60, 61, 62}, []string{"r"}},
	} {
		x := crown(t, c.p, c.bytes...)
		x.put("z", strings.Repeat("w", 40))
		b, is := rootOf(t, x.s)
		if !is {
			t.Fatalf("%v: the root is no node", c.p)
		}
		left := []string{"a", "i", "r", "z"}
		left = slices.DeleteFunc(left, func(key string) bool { return slices.Contains(c.served, key) })
		var have []string
		for _, m := range b.Msgs {
			have = append(have, string(m.Lo))
		}
		if !slices.Equal(have, left) {
			t.Errorf("%v: %q wait, want %q", c.p, have, left)
		}
		x.sound("served")
		tellsAll(t, "served", x.b, x.now)
	}
}

// A Round serves one child behind the other, also where several calls do so.
func TestServedRound(t *testing.T) {
	x := crown(t, api.Policy{Kind: api.Round}, 60, 61, 62)
	var order []string
	for i := range 30 {
		was, _ := rootOf(t, x.s)
		x.put([]string{"ab", "ij", "rs"}[i%3]+fmt.Sprint(i), strings.Repeat("w", 57))
		now, _ := rootOf(t, x.s)
		for _, m := range was.Msgs {
			gone := !slices.ContainsFunc(now.Msgs, func(o api.Msg) bool { return o.Stamp == m.Stamp })
			if first := string(m.Lo[:1]); gone && (len(order) == 0 || order[len(order)-1] != first) {
				order = append(order, first)
			}
		}
		if len(now.Kids.Pages) > 3 {
			break
		}
	}
	if len(order) < 3 || strings.Join(order[:3], "") != "air" {
		t.Errorf("the children are served in the order %q", order)
	}
	x.sound("served")
}

// What a Compact pushes down is brought into its shortest form.
func TestCompact(t *testing.T) {
	for _, p := range policies() {
		w := fork("m", fork("f", twig("a"), twig("f")), fork("t", twig("p"), twig("w")))
		w = w.with("3+a=3 4+b=4 5+c=5 6-a:f")
		w.msgs = append(w.msgs, api.Msg{Stamp: 9, Kind: api.Put, Lo: []byte("g"), Value: make([]byte, 100)})
		x := grown(t, 512, 64, w, p, true)
		x.put("z", strings.Repeat("w", 100))
		l := x.sound("pushed")
		if many := len(l.msgs) > 3; many != (p.Kind != api.Compact) {
			t.Errorf("%v: %d messages wait: %v", p, len(l.msgs), l.msgs)
		}
		tellsAll(t, "pushed", x.b, x.now)
	}
}
