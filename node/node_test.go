package node_test

import (
	"bytes"
	"fmt"
	"slices"
	"strings"
	"testing"

	"banyan/api"
	"banyan/branch"
	"banyan/msg"
	"banyan/node"
	"banyan/order"
)

// The chapter's examples of bytes and of what may be.
func TestExamplesOfBytes(t *testing.T) {
	if n := node.Room(512, example()); n != 460 {
		t.Errorf("Room: %d", n)
	}
	const text = "\x00\x03\x00\x00\x00\x05\x00\x00\x00\x09\x00\x00\x00\x04\x00\x01c\x00\x01f" + "\x00\x00\x00\x02" +
		"\x00\x00\x00\x00\x00\x00\x00\x05\x01\x00\x01\x00\x01ax" + "\x00\x00\x00\x00\x00\x00\x00\x04\x03\x00\x01\x00\x01df"
	n := ofExample("p5 a=x, r4 d-f")
	if b, err := node.Encode(512, n); string(b) != text || err != api.OK {
		t.Errorf("Encode: %q, %v", b, err)
	}
	if got, err := node.Decode(512, []byte(text)); !same(got, n) || err != api.OK {
		t.Errorf("Decode: %s, %v", show(got), err)
	}
	for _, x := range []struct {
		m    string
		want api.Errno
	}{
		{"r4 b-d", api.ErrNodeRange}, {"r4 f-zz", api.OK}, {"r4 d-f", api.OK},
		{"p5 d=, p6 a=", api.ErrMsgStamp}, {"p5 a=, p5 b=", api.ErrMsgStamp}, {"p5 a=, p5 d=", api.OK}, {"p5 d=, p4 z=", api.OK},
	} {
		if got := node.Check(512, ofExample(x.m)); got != x.want {
			t.Errorf("Check(%s): %v, want %v", x.m, got, x.want)
		}
	}
}

// The chapter's examples of what waits, what is taken, and what is split.
func TestExamplesOfWaiting(t *testing.T) {
	n := ofExample("p5 a=x, r4 d-f")
	if got := node.Weights(n); !slices.Equal(got, []int{15, 15, 0}) {
		t.Errorf("Weights: %v", got)
	}
	for i, x := range []struct {
		left  api.Buffered
		taken string
		err   api.Errno
	}{
		{ofExample("r4 d-f"), "p5 a=x", api.OK}, {ofExample("p5 a=x"), "r4 d-f", api.OK}, {n, "", api.OK}, {api.Buffered{}, "", api.ErrArg},
	} {
		if left, taken, err := node.Take(n, i); !same(left, x.left) || !sameMsgs(taken, of(x.taken)) || err != x.err {
			t.Errorf("Take(%d): %s and %s, %v", i, show(left), showMsgs(taken), err)
		}
	}
	if k, err := node.Split(512, ofExample("")); k != 0 || err != api.ErrBranchKids {
		t.Errorf("Split of three: %d, %v", k, err)
	}
	five := told(with("b", "c", "d", "e"), "")
	if k, err := node.Split(512, five); k != 2 || err != api.OK {
		t.Errorf("Split of five: %d, %v", k, err)
	}
	for k, want := range map[int][]int{2: {17, 24}, 3: {24, 17}} {
		first, others := halves(five, k)
		if allBytes(first) != want[0] || allBytes(others) != want[1] {
			t.Errorf("the halves by %d have %d and %d bytes", k, allBytes(first), allBytes(others))
		}
	}
}

// Check, Encode, Decode, Split: a size that is none of the four is answered ahead of all else; Room is 0 then.
func TestWrongSizes(t *testing.T) {
	good := told(with("b", "c", "d"), "p5 a=x, r4 d-f")
	nodes := append(strange(), good, told(with("b", "a", "c"), "p0 a="), made(filled(512, 300)), told(good.Kids, "r1 a-z"))
	for _, size := range wrongSizes {
		for _, n := range nodes {
			if err := node.Check(size, n); err != api.ErrArg {
				t.Errorf("Check(%d, %s): %v", size, show(n), err)
			}
			if b, err := node.Encode(size, n); len(b) != 0 || err != api.ErrArg {
				t.Errorf("Encode(%d, %s): %q, %v", size, show(n), b, err)
			}
			if k, err := node.Split(size, n); k != 0 || err != api.ErrArg {
				t.Errorf("Split(%d, %s): %d, %v", size, show(n), k, err)
			}
			if room := node.Room(size, n.Kids); room != 0 {
				t.Errorf("Room(%d, %s): %d", size, show(n), room)
			}
		}
		for _, text := range []string{"", written(good), written(good)[:20], strings.Repeat("x", 5000)} {
			if n, err := node.Decode(size, []byte(text)); !none(n) || err != api.ErrArg {
				t.Errorf("Decode(%d, %.60q): %s, %v", size, text, show(n), err)
			}
		}
	}
}

// checks holds Check and Encode against the model.
func checks(t *testing.T, size int, n api.Buffered) api.Errno {
	t.Helper()
	want := mayBe(size, n)
	if got := node.Check(size, n); got != want {
		t.Errorf("Check(%d, %s): %v, want %v", size, show(n), got, want)
	}
	text := ""
	if want == api.OK {
		text = written(n)
	}
	if b, err := node.Encode(size, n); string(b) != text || err != want {
		t.Errorf("Encode(%d, %s): %q, %v, want %v", size, show(n), b, err, want)
	}
	return want
}

// The first point: what branch's Check says of the Kids, and whether they keep to their half; at each limit, and one byte beyond it.
func TestKidsOfANode(t *testing.T) {
	for _, n := range strange() {
		if err := checks(t, 512, n); err == api.OK {
			t.Errorf("Check(%s): %v", show(n), err)
		}
	}
	for _, size := range sizes {
		room := size - 32
		for _, x := range []struct {
			k    api.Kids
			want api.Errno
		}{
			{with("a"), api.OK}, {with(strings.Repeat("k", size/16)), api.OK}, {kids("a", 2, 65535), api.OK},
			{with(), api.ErrBranchKids}, {kids("a", 5, 5), api.ErrBranchKids}, {kids("a", 1, 5), api.ErrBranchKids}, {kids("a", 65536, 5), api.ErrBranchKids}, {kids("a b", 5, 6), api.ErrBranchKids},
			{with(""), api.ErrBranchKey}, {with(strings.Repeat("k", size/16+1)), api.ErrBranchKey},
			{with("a", "a"), api.ErrBranchOrder}, {with("b", "a"), api.ErrBranchOrder},
			{filled(size, room/2), api.OK}, {filled(size, room/2+1), api.ErrNodeRoom}, {filled(size, room/2+9), api.ErrNodeRoom}, {filled(size, room), api.ErrNodeRoom}, {filled(size, room+1), api.ErrBranchLong},
		} {
			for _, m := range []string{"", "p1 \x01="} {
				if got := checks(t, size, told(x.k, m)); got != x.want {
					t.Errorf("Check(%d, %s) with %q: %v, want %v", size, show(made(x.k)), m, got, x.want)
				}
			}
		}
	}
}

// The second point: a message that may not be by itself, at any place.
func TestMessagesByThemselves(t *testing.T) {
	for _, size := range sizes {
		key, value := strings.Repeat("k", size/16), strings.Repeat("v", size/4)
		for _, x := range []struct {
			one  api.Msg
			want api.Errno
		}{
			{put(1, "g", ""), api.OK}, {put(1<<62, key, value), api.OK}, {del(1, key), api.OK}, {cut(1, key, "l"), api.OK}, {cut(1, key[1:], key), api.OK},
			{put(0, "g", ""), api.ErrMsgStamp}, {del(1<<62+1, "g"), api.ErrMsgStamp}, {cut(1<<64-1, "g", "h"), api.ErrMsgStamp},
			{put(1, "", ""), api.ErrMsgKind}, {put(1, key+"k", ""), api.ErrMsgKind}, {put(1, "g", value+"v"), api.ErrMsgKind}, {del(1, ""), api.ErrMsgKind},
			{cut(1, "g", "g"), api.ErrMsgKind}, {cut(1, "h", "g"), api.ErrMsgKind}, {cut(1, "g", ""), api.ErrMsgKind}, {cut(1, "g", key+"k"), api.ErrMsgKind}, {cut(1, "", "g"), api.ErrMsgKind},
			{api.Msg{Stamp: 1, Lo: []byte("g")}, api.ErrMsgKind}, {api.Msg{Stamp: 1, Kind: 4, Lo: []byte("g")}, api.ErrMsgKind}, {api.Msg{Stamp: 1, Kind: -1, Lo: []byte("g")}, api.ErrMsgKind}, {api.Msg{}, api.ErrMsgKind},
			{api.Msg{Stamp: 1, Kind: api.Put, Lo: []byte("g"), Hi: []byte("h")}, api.ErrMsgKind}, {api.Msg{Stamp: 1, Kind: api.Del, Lo: []byte("g"), Value: []byte("v")}, api.ErrMsgKind}, {api.Msg{Stamp: 1, Kind: api.DelRange, Lo: []byte("g"), Hi: []byte("h"), Value: []byte("v")}, api.ErrMsgKind},
		} {
			for _, ahead := range []string{"", "p7 a=x, d9 d"} {
				n := ofExample(ahead)
				n.Msgs = append(n.Msgs, x.one)
				if got := checks(t, size, n); got != x.want {
					t.Errorf("Check(%d, %s): %v, want %v", size, show(n), got, x.want)
				}
			}
		}
	}
}

// The second point: a DelRange has no key between two children above its Lo and below its Hi; one at an end of it may be.
func TestRanges(t *testing.T) {
	k := with("b", "bb", "d", "d\x00", "\xff")
	for _, x := range []struct {
		m    string
		want api.Errno
	}{
		{"r1 a-b", api.OK}, {"r1 a-b\x00", api.ErrNodeRange}, {"r1 a-ba", api.ErrNodeRange}, {"r1 a-z", api.ErrNodeRange}, {"r1 a-a\x00", api.OK}, {"r1 \x00-b", api.OK},
		{"r1 b-bb", api.OK}, {"r1 b-ba", api.OK}, {"r1 b\x00-bb", api.OK}, {"r1 b-bb\x00", api.ErrNodeRange}, {"r1 b-bc", api.ErrNodeRange}, {"r1 ba-d", api.ErrNodeRange}, {"r1 ba-\xff\xff", api.ErrNodeRange},
		{"r1 bb-d", api.OK}, {"r1 c-d", api.OK}, {"r1 c-d\x00", api.ErrNodeRange}, {"r1 bb-c", api.OK},
		{"r1 d-d\x00", api.OK}, {"r1 d-d\x00\x00", api.ErrNodeRange}, {"r1 d-e", api.ErrNodeRange},
		{"r1 d\x00-e", api.OK}, {"r1 e-\xff", api.OK}, {"r1 e-\xff\x00", api.ErrNodeRange},
		{"r1 \xff-\xff\x00", api.OK}, {"r1 \xff-\xff\xff\xff", api.OK}, {"r1 \xff\x01-\xff\x02", api.OK},
		// A Put or a Del says nothing of other keys, wherever it stands.
		{"p1 b=x, p1 bb=x, d1 d, d1 d\x00, p1 \xff=", api.OK}, {"d1 a, d1 ba, d1 c, d1 d\x00\x00, d1 \xff\xff", api.OK},
	} {
		if got := checks(t, 512, told(k, x.m)); got != x.want {
			t.Errorf("Check(%q): %v, want %v", x.m, got, x.want)
		}
	}
	all := []string{"\x00", "a", "b", "b\x00", "ba", "bb", "bb\x00", "c", "d", "d\x00", "d\x00\x00", "e", "\xff", "\xff\xff"}
	for _, lo := range all {
		for _, hi := range all {
			checks(t, 512, made(k, cut(1, lo, hi)))
		}
	}
}

// The third point: child by child, and for one child with stamps that rise; those for another one have nothing to do with it.
func TestChildByChild(t *testing.T) {
	for _, x := range []struct {
		m    string
		want api.Errno
	}{
		{"p5 a=, p6 a=, p7 b=", api.OK}, {"p9 b=, p10 a=, p1 c=, p2 c=, p1 f=", api.OK}, {"d1 a, d1 c, d1 f", api.OK}, {"d3 a, d2 c, d1 f", api.OK},
		{"d1 f", api.OK}, {"d9 a, d1 f", api.OK}, {"r5 a-c, r6 a-c, r5 c-f, r6 c-f", api.OK}, {"d4611686018427387904 a, d1 d", api.OK},
		{"p5 a=, p5 a=", api.ErrMsgStamp}, {"p5 a=, p4 b=", api.ErrMsgStamp}, {"p5 a=, d6 b, p6 a=", api.ErrMsgStamp}, {"d1 a, d5 c, d5 d", api.ErrMsgStamp}, {"d1 a, d1 f, d1 f", api.ErrMsgStamp},
		{"d1 c, d2 a", api.ErrMsgStamp}, {"d1 f, d2 c", api.ErrMsgStamp}, {"d1 f, d2 a", api.ErrMsgStamp}, {"d1 a, d2 c, d3 b", api.ErrMsgStamp}, {"d1 c, d2 b\xff\xff", api.ErrMsgStamp}, {"r1 f-g, r2 c-d", api.ErrMsgStamp},
	} {
		if got := checks(t, 512, ofExample(x.m)); got != x.want {
			t.Errorf("Check(%q): %v, want %v", x.m, got, x.want)
		}
	}
}

// The fourth point: just as many bytes as there is room for, and one more, at every size.
func TestLongNodes(t *testing.T) {
	for _, size := range sizes {
		for _, k := range []api.Kids{example(), with("a"), filled(size, (size-32)/2)} {
			spare := node.Room(size, k) - msg.Bytes(nil)
			for more, want := range []api.Errno{api.OK, api.ErrNodeLong, api.ErrNodeLong} {
				n := made(k, stuffed(size, "\x01", 7, spare+more)...)
				if got := checks(t, size, n); got != want {
					t.Errorf("Check(%d) of %d bytes: %v, want %v", size, allBytes(n), got, want)
				}
			}
		}
		many := made(example(), stuffed(size, "z", 1, 100*size)...)
		if got := checks(t, size, many); got != api.ErrNodeLong {
			t.Errorf("Check(%d) of %d bytes: %v", size, allBytes(many), got)
		}
	}
}

// P2: of several errors the one that is named first.
func TestFirstFault(t *testing.T) {
	wrong := of("d0 , r1 a-z, d1 z, d1 a")
	lots := stuffed(512, "\x01", 1, 1000)
	for i, x := range []struct {
		n    api.Buffered
		want api.Errno
	}{
		{made(kids("b a", 5, 5, 6), wrong...), api.ErrBranchKids}, {made(with("b", "a", ""), wrong...), api.ErrBranchKey}, {made(with("b", "a"), wrong...), api.ErrBranchOrder},
		{made(filled(512, 481), wrong...), api.ErrBranchLong}, {made(filled(512, 480), wrong...), api.ErrNodeRoom}, {made(filled(512, 241), wrong...), api.ErrNodeRoom}, {made(filled(512, 241), lots...), api.ErrNodeRoom},
		{made(example(), append(copyMsgs(lots), wrong...)...), api.ErrMsgKind}, {made(example(), append(copyMsgs(lots), cut(90, "a", "z"))...), api.ErrNodeRange}, {made(example(), append(copyMsgs(lots), del(1, "a"))...), api.ErrMsgStamp}, {made(example(), lots...), api.ErrNodeLong},
		// Of one message: what msg's Check says of it alone, then the range, then what is ahead of it.
		{ofExample("r0 b-a"), api.ErrMsgKind}, {ofExample("r0 a-z"), api.ErrMsgStamp}, {ofExample("d9 z, r0 b-a"), api.ErrMsgKind}, {ofExample("d9 z, r0 a-z"), api.ErrMsgStamp}, {ofExample("d9 z, r1 a-z"), api.ErrNodeRange}, {ofExample("d9 b, r9 a-z"), api.ErrNodeRange}, {ofExample("d9 z, r1 a-b"), api.ErrMsgStamp},
		// Of several: the first one's.
		{ofExample("r1 a-z, d1 "), api.ErrNodeRange}, {ofExample("d1 , r1 a-z"), api.ErrMsgKind}, {ofExample("d2 z, d3 a, r4 a-z"), api.ErrMsgStamp}, {ofExample("d2 a, r4 a-z, d1 a"), api.ErrNodeRange}, {ofExample("d0 a, r4 a-z"), api.ErrMsgStamp}, {ofExample("d5 a, d4 a, p9 ="), api.ErrMsgStamp},
	} {
		if got := checks(t, 512, x.n); got != x.want {
			t.Errorf("%d: Check(%s): %v, want %v", i, show(x.n), got, x.want)
		}
	}
}

// Check and Encode of nodes of all kinds, at every size, against the model.
func TestCheckThrown(t *testing.T) {
	d := dice(81)
	seen := map[api.Errno]int{}
	for i := range 12000 {
		size := sizes[i%4]
		n := d.node(size)
		if i%3 == 0 {
			n = d.long(size, 2+d.below(size/24), d.below(size/12))
		}
		for range d.below(3) {
			n = d.spoilt(size, n)
		}
		seen[checks(t, size, n)]++
	}
	for _, err := range []api.Errno{api.OK, api.ErrBranchKids, api.ErrBranchKey, api.ErrBranchOrder, api.ErrBranchLong, api.ErrMsgKind, api.ErrMsgStamp, api.ErrNodeRoom, api.ErrNodeLong, api.ErrNodeRange} {
		if seen[err] < 50 {
			t.Errorf("%v came only %d times", err, seen[err])
		}
	}
}

// Room: of any Kids, whether they may be a branch or not; 0, where there is none.
func TestRoom(t *testing.T) {
	for _, size := range sizes {
		for _, n := range append(strange(), ofExample(""), made(filled(size, (size-32)/2)), made(filled(size, size-33)), made(filled(size, size-32)), made(filled(size, size-31)), made(filled(size, 3*size))) {
			want := max(0, size-32-kidsBytes(n.Kids))
			if got := node.Room(size, n.Kids); got != want {
				t.Errorf("Room(%d, %s): %d, want %d", size, show(n), got, want)
			}
		}
		if got := node.Room(size, api.Kids{}); got != size-34 {
			t.Errorf("Room(%d) of nothing: %d", size, got)
		}
		if got := node.Room(size, filled(size, size-33)); got != 1 {
			t.Errorf("Room(%d) of all bytes but one: %d", size, got)
		}
	}
	// Messages that have as many bytes as Room tells may be, if the Kids keep to their half.
	d := dice(82)
	for i := range 400 {
		size := sizes[i%4]
		k := d.node(size).Kids
		room := node.Room(size, k)
		full := made(k, stuffed(size, string(k.Keys[0]), 1, room-msg.Bytes(nil))...)
		if msg.Bytes(full.Msgs) != room || node.Check(size, full) != api.OK {
			t.Fatalf("Room(%d, %s): %d, and Check says %v", size, show(made(k)), room, node.Check(size, full))
		}
	}
}

// decodes holds Decode against the model, and Encode of what it tells against the bytes; it tells whether it is a node.
func decodes(t *testing.T, size int, text string) bool {
	t.Helper()
	want, err := toldBy(size, text)
	got, is := node.Decode(size, []byte(text))
	if !same(got, want) || is != err {
		t.Fatalf("Decode(%d, %q): %s, %v, want %s, %v", size, text, show(got), is, show(want), err)
	}
	if err != api.OK {
		return false
	}
	if b, err := node.Encode(size, got); string(b) != text || err != api.OK {
		t.Fatalf("Encode(%d, %s): %q, %v, want %q", size, show(got), b, err, text)
	}
	return true
}

// P8.1: Decode of Encode is the node, at every size, up to the last byte that there is room for.
func TestThereAndBack(t *testing.T) {
	d := dice(83)
	for i := range 3000 {
		size := sizes[i%4]
		n := d.node(size)
		if i < 4 {
			n.Kids = filled(size, (size-32)/2)
			n.Msgs = stuffed(size, "\x01", 1, node.Room(size, n.Kids)-4)
		}
		b, err := node.Encode(size, n)
		if err != api.OK || len(b) != branch.Bytes(n.Kids)+msg.Bytes(n.Msgs) || len(b) != allBytes(n) {
			t.Fatalf("Encode(%d, %s): %d bytes, %v", size, show(n), len(b), err)
		}
		if got, err := node.Decode(size, b); !same(got, n) || err != api.OK {
			t.Fatalf("Decode(%d, %q): %s, %v, want %s", size, b, show(got), err, show(n))
		}
		for _, other := range sizes {
			decodes(t, other, string(b))
		}
	}
}

// The bytes of a node are those of its Kids, as branch has them, and those of its messages, as msg has them.
func TestBytesOfBoth(t *testing.T) {
	for _, m := range []string{"", "p5 a=x", "p5 a=x, d6 b, r7 d-f, p8 f=", "d1 f"} {
		n := ofExample(m)
		kids, _ := branch.Encode(512, n.Kids)
		msgs, _ := msg.Encode(512, n.Msgs)
		if b, err := node.Encode(512, n); !bytes.Equal(b, slices.Concat(kids, msgs)) || err != api.OK {
			t.Errorf("Encode(%s): %q, %v", m, b, err)
		}
	}
}

// P8.1: no beginning of a node's bytes is a node, nor what has bytes behind them.
func TestBeginningsAndMore(t *testing.T) {
	d := dice(84)
	for range 60 {
		text := written(d.node(512))
		for n := range len(text) {
			if got, err := node.Decode(512, []byte(text[:n])); !none(got) || err != api.ErrNodeForm {
				t.Errorf("Decode of a beginning of %d bytes of %q: %s, %v", n, text, show(got), err)
			}
		}
		for _, more := range []string{"\x00", "x", "\x00\x00\x00\x00", raw(1<<62, 2, "\xff\xff\xff\xff\xff", ""), text} {
			if got, err := node.Decode(4096, []byte(text+more)); !none(got) || err != api.ErrNodeForm {
				t.Errorf("Decode of %q and %q: %s, %v", text, more, show(got), err)
			}
		}
	}
}

// P8.1: bytes of which one, or two, are others, against the model.
func TestTurnedBytes(t *testing.T) {
	good := 0
	for _, n := range []api.Buffered{ofExample("p5 a=x, r4 d-f"), told(with("b"), "d2 a, r3 a-b, p1 b="), made(with("a", "ab")), told(with("aa", "b"), "p1 a=xxxxxxxxxxxxxxx, d1 z")} {
		text := []byte(written(n))
		for i := range text {
			for x := range 256 {
				turned := bytes.Clone(text)
				turned[i] = byte(x)
				if decodes(t, 512, string(turned)) {
					good++
				}
			}
			for j := range i {
				for _, x := range []byte{0, 1, 2, 3, 5, 'a', 'd', 255} {
					for _, y := range []byte{0, 1, 2, 3, 4, 'b', 255} {
						turned := bytes.Clone(text)
						turned[i], turned[j] = x, y
						if decodes(t, 512, string(turned)) {
							good++
						}
					}
				}
			}
		}
	}
	if good < 1000 {
		t.Errorf("only %d of them are nodes", good)
	}
}

// Decode: bytes that tell a node which may not be: each fault by itself, and the limits of every size.
func TestDecodeRefuses(t *testing.T) {
	for _, size := range sizes {
		half, room := (size-32)/2, size-32
		key, value := strings.Repeat("k", size/16), strings.Repeat("v", size/4)
		full := filled(size, half)
		spare := node.Room(size, full) - 4
		for i, x := range []struct {
			n    api.Buffered
			want api.Errno
		}{
			{ofExample(""), api.OK}, {made(full), api.OK}, {made(full, stuffed(size, "\x01", 1, spare)...), api.OK}, {made(with(key), put(1, key, value), cut(2, key, "l")), api.OK}, {made(kids("a", 65535, 2), del(1<<62, "a")), api.OK}, {ofExample("d9 a, d1 c, d1 f"), api.OK},
			{made(full, stuffed(size, "\x01", 1, spare+1)...), api.ErrNodeForm}, {made(filled(size, half+1)), api.ErrNodeForm}, {made(filled(size, room-4)), api.ErrNodeForm}, {made(filled(size, room)), api.ErrNodeForm},
			{made(with()), api.ErrNodeForm}, {made(api.Kids{}), api.ErrNodeForm}, {made(with("")), api.ErrNodeForm}, {made(with(key + "k")), api.ErrNodeForm}, {made(with("b", "a")), api.ErrNodeForm}, {made(kids("a", 5, 5)), api.ErrNodeForm}, {made(kids("a", 1, 5)), api.ErrNodeForm}, {made(kids("a", 65536, 5)), api.ErrNodeForm}, {made(kids("", 5, 6)), api.ErrNodeForm}, {made(kids("a b", 5, 6)), api.ErrNodeForm},
			{ofExample("d0 a"), api.ErrNodeForm}, {ofExample("d1 "), api.ErrNodeForm}, {made(example(), del(1<<62+1, "a")), api.ErrNodeForm}, {made(example(), put(1, "z", value+"v")), api.ErrNodeForm}, {made(example(), put(1, key+"k", "")), api.ErrNodeForm}, {ofExample("r1 b-a"), api.ErrNodeForm}, {ofExample("r1 a-a"), api.ErrNodeForm},
			{ofExample("r1 a-d"), api.ErrNodeForm}, {ofExample("r1 d-f\x00"), api.ErrNodeForm}, {ofExample("d1 c, d2 a"), api.ErrNodeForm}, {ofExample("d2 a, d2 b"), api.ErrNodeForm}, {ofExample("d2 a, d1 a, d1 f"), api.ErrNodeForm},
		} {
			got, err := node.Decode(size, []byte(written(x.n)))
			want := x.n
			if x.want != api.OK {
				want = api.Buffered{}
			}
			if !same(got, want) || err != x.want {
				t.Errorf("%d: Decode(%d, %s): %s, %v, want %v", i, size, show(x.n), show(got), err, x.want)
			}
			decodes(t, size, written(x.n))
		}
	}
}

// Decode: texts whose numbers tell of more, or of less, than there is.
func TestDecodeOfOtherNumbers(t *testing.T) {
	k := writtenKids(example())
	one := raw(5, 1, "a", "x")
	long := digits(8, 5) + digits(1, 1)
	for _, text := range []string{
		"", "\x00", "\x00\x00", "\x00\x02", "\xff\xff", "\xff\xff\xff\xff\xff\xff", strings.Repeat("\x00", 480), strings.Repeat("\xff", 480), strings.Repeat("\x00", 481), strings.Repeat("x", 70000),
		k, k + "\x00\x00\x00", k + digits(4, 1), k + digits(4, 1<<32-1), k + digits(4, 0) + one, k + digits(4, 2) + one, k + digits(4, 1<<32-1) + one, k + digits(4, 1<<31+1) + one, k + digits(4, 257) + one, k + digits(4, 1<<16+1) + one,
		k + digits(4, 1) + long, k + digits(4, 1) + long + digits(2, 1) + digits(2, 2) + "ax", k + digits(4, 1) + long + digits(2, 65535) + digits(2, 65535) + "ax", k + digits(4, 1) + long + digits(2, 1) + digits(2, 0) + "ax", k + digits(4, 1) + long + digits(2, 3) + digits(2, 0) + "ax",
		k + digits(4, 1) + raw(5, 2, "a", "x"), k + digits(4, 1) + raw(5, 0, "a", ""), k + digits(4, 1) + raw(5, 4, "a", ""), k + digits(4, 1) + raw(5, 255, "a", ""), k + digits(4, 1) + raw(0, 2, "a", ""), k + digits(4, 1) + raw(5, 3, "a", ""),
		digits(2, 3) + k[2:14], digits(2, 4) + k[2:] + digits(4, 0), digits(2, 2) + k[2:] + digits(4, 0), digits(2, 259) + k[2:] + digits(4, 0), digits(2, 65535) + k[2:] + digits(4, 0), digits(2, 1) + digits(4, 5) + digits(4, 0),
		k[:14] + digits(2, 65535) + "c" + digits(2, 1) + "f" + digits(4, 0), k[:14] + digits(2, 4) + "c" + digits(2, 1) + "f" + digits(4, 0), k[:14] + digits(2, 0) + digits(2, 1) + "f" + digits(4, 0),
	} {
		if n, err := node.Decode(512, []byte(text)); !none(n) || err != api.ErrNodeForm {
			t.Errorf("Decode(%.60q): %s, %v", text, show(n), err)
		}
		decodes(t, 512, text)
	}
	for _, text := range []string{k + digits(4, 0), k + digits(4, 1) + one, k + digits(4, 2) + one + raw(1, 2, "z", "")} {
		if !decodes(t, 512, text) {
			t.Errorf("Decode(%.60q) refuses it", text)
		}
	}
	if n, err := node.Decode(512, nil); !none(n) || err != api.ErrNodeForm {
		t.Errorf("Decode of nil: %s, %v", show(n), err)
	}
}

// Decode: of more bytes than a page has no list is made, nor of numbers that the bytes cannot hold.
func TestDecodeOfMuch(t *testing.T) {
	k := writtenKids(example())
	many := k + digits(4, 100000) + strings.Repeat(raw(1, 1, "a", "x"), 100000)
	for _, text := range []string{many, k + digits(4, 1<<32-1) + raw(1, 1, "a", "x"), digits(2, 65535) + strings.Repeat("\x00", 4000)} {
		made := testing.AllocsPerRun(1, func() {
			if n, err := node.Decode(4096, []byte(text)); !none(n) || err != api.ErrNodeForm {
				t.Errorf("Decode: %s, %v", show(n), err)
			}
		})
		if made > 100 {
			t.Errorf("Decode made %v lists", made)
		}
	}
}

// shifted are nodes that may be, but for how many bytes they have, of all kinds and sizes.
func shifted(d *dice, count int) []api.Buffered {
	list := []api.Buffered{ofExample(""), ofExample("p5 a=x, r4 d-f"), ofExample("d1 f"), ofExample("d1 c"), ofExample("d1 b, d2 a, d3 b"), told(with("a"), "p1 a=")}
	for i := range count {
		n := d.node(sizes[i%4])
		if i%2 == 0 {
			n = d.long(sizes[i%4], 2+d.below(40), d.below(200))
		}
		list = append(list, n)
	}
	return list
}

// P8.2: Weights of each child are the bytes of the messages for it; together those of all; 0 just where none is for it.
func TestWeights(t *testing.T) {
	d := dice(85)
	for _, n := range shifted(&d, 1500) {
		got, sum := node.Weights(n), 0
		if len(got) != len(n.Kids.Pages) {
			t.Fatalf("Weights(%s): %v", show(n), got)
		}
		for i, weight := range got {
			mine := messagesFor(n, i, i+1)
			if weight != msgsBytes(mine)-4 || (weight == 0) != (len(mine) == 0) {
				t.Fatalf("Weights(%s): %v, and for the child %d there is %s", show(n), got, i, showMsgs(mine))
			}
			sum += weight
		}
		if sum != msg.Bytes(n.Msgs)-msg.Bytes(nil) {
			t.Fatalf("Weights(%s): %v, and all have %d bytes", show(n), got, msg.Bytes(n.Msgs))
		}
	}
}

// A message is for the child that has its Lo: the key between two children is the second one's.
func TestForWhom(t *testing.T) {
	k := with("b", "bb", "d", "\xff")
	for _, x := range []struct {
		key  string
		want int
	}{
		{"\x00", 0}, {"a", 0}, {"a\xff\xff", 0}, {"b", 1}, {"b\x00", 1}, {"ba", 1}, {"bb", 2}, {"bb\x00", 2}, {"c", 2}, {"d", 3}, {"\xfe\xff", 3}, {"\xff", 4}, {"\xff\xff", 4},
	} {
		for _, one := range []api.Msg{put(1, x.key, "v"), del(1, x.key), cut(1, x.key, x.key+"\x00")} {
			got := node.Weights(made(k, one))
			want := make([]int, 5)
			want[x.want] = 13 + len(one.Lo) + len(one.Hi) + len(one.Value)
			if !slices.Equal(got, want) {
				t.Errorf("Weights(%s): %v, want %v", showMsgs([]api.Msg{one}), got, want)
			}
			for i := range 5 {
				left, taken, err := node.Take(made(k, one), i)
				if err != api.OK || len(taken)+len(left.Msgs) != 1 || (len(taken) == 1) != (i == x.want) {
					t.Errorf("Take(%s, %d): %s and %s, %v", showMsgs([]api.Msg{one}), i, showMsgs(left.Msgs), showMsgs(taken), err)
				}
			}
		}
	}
}

// takes holds Take of a child against the chapter's words.
func takes(t *testing.T, n api.Buffered, i int) (api.Buffered, []api.Msg) {
	t.Helper()
	left, taken, err := node.Take(n, i)
	all := len(n.Kids.Pages)
	others := append(copyMsgs(messagesFor(n, 0, i)), messagesFor(n, i+1, all)...)
	if err != api.OK || !sameMsgs(taken, messagesFor(n, i, i+1)) || !same(left, made(n.Kids, others...)) {
		t.Fatalf("Take(%s, %d): %s and %s, %v", show(n), i, show(left), showMsgs(taken), err)
	}
	if weight := node.Weights(n)[i]; (len(taken) == 0) != (weight == 0) || allBytes(n)-allBytes(left) != weight {
		t.Fatalf("Take(%s, %d): %s, and the child's weight was %d", show(n), i, show(left), weight)
	}
	if again := node.Weights(left); again[i] != 0 {
		t.Fatalf("Take(%s, %d) leaves %v", show(n), i, again)
	}
	return left, taken
}

// P8.3: Take leaves the node with the others, and tells those for the child, in their order; both may be, and what it tells lies within the child's Span.
func TestTake(t *testing.T) {
	d := dice(86)
	for i, n := range shifted(&d, 800) {
		for child := range n.Kids.Pages {
			takes(t, n, child)
		}
		size := sizes[i%4]
		n = d.node(size)
		for child := range n.Kids.Pages {
			left, taken := takes(t, n, child)
			if node.Check(size, left) != api.OK || msg.Check(size, taken) != api.OK {
				t.Fatalf("Take(%s, %d): %s and %s may not be", show(n), child, show(left), showMsgs(taken))
			}
			span, _ := branch.Span(n.Kids, api.Range{All: true}, child)
			for _, one := range taken {
				said := api.Range{Lo: one.Lo, Hi: one.Hi}
				if one.Kind != api.DelRange {
					said.Hi = order.Next(one.Lo)
				}
				if !order.Inside(said, span) {
					t.Fatalf("Take(%s, %d): %s lies outside", show(n), child, showMsgs([]api.Msg{one}))
				}
			}
		}
	}
}

// P8.3: what all children are taken, one behind the other, is all that there was, and nothing is left.
func TestTakeAll(t *testing.T) {
	d := dice(87)
	for _, n := range shifted(&d, 300) {
		var all []api.Msg
		left := n
		for i := range n.Kids.Pages {
			var taken []api.Msg
			left, taken = takes(t, left, i)
			all = append(all, taken...)
		}
		if !sameMsgs(all, n.Msgs) || len(left.Msgs) != 0 || !sameKids(left.Kids, n.Kids) {
			t.Fatalf("of %s all taken are %s, and %s is left", show(n), showMsgs(all), show(left))
		}
	}
}

// Take: ErrArg of children that are not there, and nothing beside it.
func TestTakeRefuses(t *testing.T) {
	d := dice(88)
	for _, n := range append(shifted(&d, 50), strange()...) {
		all := len(n.Kids.Pages)
		for _, i := range []int{-1, all, all + 1, -1 << 63, 1<<63 - 1} {
			if left, taken, err := node.Take(n, i); !none(left) || len(taken) != 0 || err != api.ErrArg {
				t.Errorf("Take(%s, %d): %s and %s, %v", show(n), i, show(left), showMsgs(taken), err)
			}
		}
	}
}

// P1: Weights and Take answer, also of nodes that may not be.
func TestStrangeNodesAreAnswered(t *testing.T) {
	for _, n := range strange() {
		if got := node.Weights(n); len(got) > len(n.Kids.Pages) {
			t.Errorf("Weights(%s): %v", show(n), got)
		}
		for i := range n.Kids.Pages {
			node.Take(n, i)
		}
	}
}

// splits holds Split against each number tried, and P8.4: both halves may be, and each message is in just one of them.
func splits(t *testing.T, size int, n api.Buffered) api.Errno {
	t.Helper()
	want, err := splitAt(size, n)
	k, is := node.Split(size, n)
	if k != want || is != err {
		t.Fatalf("Split(%d, %s): %d, %v, want %d, %v", size, show(n), k, is, want, err)
	}
	if err != api.OK {
		return err
	}
	first, others := halves(n, k)
	if node.Check(size, first) != api.OK || node.Check(size, others) != api.OK {
		t.Fatalf("Split(%d, %s): %d, and a half may not be", size, show(n), k)
	}
	if !sameMsgs(slices.Concat(first.Msgs, others.Msgs), n.Msgs) {
		t.Fatalf("Split(%d, %s): %d, and the halves have %s and %s", size, show(n), k, showMsgs(first.Msgs), showMsgs(others.Msgs))
	}
	return api.OK
}

// Split of nodes of all kinds, at every size, against the model, whatever is wrong with them.
func TestSplitThrown(t *testing.T) {
	d := dice(89)
	seen := map[api.Errno]int{}
	for i := range 5000 {
		size := sizes[i%4]
		n := d.long(size, 2+d.below(30), d.below(60))
		if i%9 == 0 {
			n = d.long(size, 2+d.below(size/6), d.below(size/24))
		}
		if i%2 == 0 {
			n = d.spoilt(size, n)
		}
		seen[splits(t, size, n)]++
	}
	for _, err := range []api.Errno{api.OK, api.ErrBranchKids, api.ErrBranchKey, api.ErrBranchOrder, api.ErrMsgKind, api.ErrMsgStamp, api.ErrNodeLong, api.ErrNodeRange} {
		if seen[err] < 20 {
			t.Errorf("%v came only %d times", err, seen[err])
		}
	}
}

// P8.4: of a node that may be, of four children or more, Split is OK.
func TestSplitOfWhatMayBe(t *testing.T) {
	d := dice(90)
	count := 0
	for i := range 1500 {
		size := sizes[i%4]
		n := d.node(size)
		if len(n.Kids.Pages) < 4 {
			continue
		}
		count++
		if err := splits(t, size, n); err != api.OK {
			t.Fatalf("Split(%d, %s): %v", size, show(n), err)
		}
	}
	if count < 500 {
		t.Errorf("only %d nodes", count)
	}
	for _, size := range sizes {
		n := made(filled(size, (size-32)/2))
		for _, key := range []string{"\x01", "b!", "zz"} {
			n.Msgs = stuffed(size, key, 1, node.Room(size, n.Kids)-4)
			if err := splits(t, size, n); node.Check(size, n) != api.OK || err != api.OK {
				t.Errorf("Split(%d) of all that there is room for, at %q: %v", size, key, err)
			}
		}
	}
}

// Split: messages weigh where they wait; of several numbers that are as good the least; the key between both halves is in neither.
func TestSplitChoice(t *testing.T) {
	long := strings.Repeat("m", 30)
	value := strings.Repeat("v", 40)
	for _, x := range []struct {
		keys, m string
		want    int
	}{
		{"b c d", "", 2}, {"b c d e", "", 2}, {"b c d e f", "", 3}, {"b c d e f g", "", 3}, {"b c d e f g h", "", 4},
		{"b c d e", "d1 z", 3}, {"b c d e", "d1 a", 2}, {"b c d e", "p1 c=" + value, 2}, {"b c d e", "p1 e=" + value, 3}, {"b c d e f g h", "p1 a=" + value, 2}, {"b c d e f g h", "p1 z=" + value, 6}, {"b c d e f g h", "p1 e=" + value, 4}, {"b c d e f g h", "p1 d=" + value, 4},
		{"b c d e f g h", "p1 a=" + value + ", p1 z=" + value, 4}, {"b c d e f g h", "p1 d=, p1 e=", 4}, {"b c d e f g h", "d1 a, d1 b, d1 c, d1 d", 3},
		{"b c " + long + " x y", "", 3}, {"b " + long + " x y z", "", 2}, {"b c d " + long + " z", "", 4}, {"b c d " + long + " z", "p1 a=" + value, 2},
	} {
		n := told(with(strings.Fields(x.keys)...), x.m)
		if k, err := splitAt(512, n); k != x.want || err != api.OK {
			t.Errorf("the model splits %s, %s at %d, %v", x.keys, x.m, k, err)
		}
		if k, err := node.Split(512, n); k != x.want || err != api.OK {
			t.Errorf("Split(%s, %s): %d, %v, want %d", x.keys, x.m, k, err, x.want)
		}
	}
}

// Split, P2: the errors in their order; a Kids that is too long for a branch, or for its half, is none of them.
func TestSplitFirstFault(t *testing.T) {
	four := with("b", "c", "d")
	wrong := of("d0 , r1 a-z, d1 z, d1 a")
	for i, x := range []struct {
		n    api.Buffered
		want api.Errno
	}{
		{made(kids("b c a", 5, 6, 7, 5), wrong...), api.ErrBranchKids}, {made(with("b", "a", ""), wrong...), api.ErrBranchKey}, {made(with("b", "a", "c"), wrong...), api.ErrBranchOrder},
		{made(with("", "a")), api.ErrBranchKey}, {made(with("b", "a"), wrong...), api.ErrBranchOrder}, {made(with("a", "b"), wrong...), api.ErrBranchKids}, {made(with("a")), api.ErrBranchKids}, {made(with()), api.ErrBranchKids}, {api.Buffered{}, api.ErrBranchKids}, {made(kids("a b", 5, 6, 7, 8)), api.ErrBranchKids},
		{made(four, wrong...), api.ErrMsgKind}, {told(four, "r1 a-z, d1 "), api.ErrNodeRange}, {told(four, "d1 z, d1 a"), api.ErrMsgStamp}, {told(four, "d1 a, d1 a"), api.ErrMsgStamp}, {told(four, "r0 a-z"), api.ErrMsgStamp}, {told(four, "d9 z, r1 a-z"), api.ErrNodeRange},
		{made(filled(512, 2000), wrong...), api.ErrMsgKind}, {made(filled(512, 2000)), api.ErrNodeLong}, {made(filled(512, 481)), api.ErrNodeLong}, {made(filled(512, 300)), api.OK},
		{made(four, append(stuffed(512, "a", 1, 2000), of("r1 b-z")...)...), api.ErrNodeRange}, {made(four, stuffed(512, "a", 1, 2000)...), api.ErrNodeLong},
		{told(four, ""), api.OK}, {told(four, "p5 a=x, r4 b-c, d1 z"), api.OK},
	} {
		if got := splits(t, 512, x.n); got != x.want {
			t.Errorf("%d: Split(%s): %v, want %v", i, show(x.n), got, x.want)
		}
	}
}

// mirrored is Kids of so many bytes each, one behind the other, with a key between them; the keys rise.
func mirrored(size int, each int, between string) (api.Kids, int) {
	half := filled(size, each)
	whole := copyOf(made(half)).Kids
	whole.Keys = append(whole.Keys, []byte(between))
	for _, key := range half.Keys {
		// The first byte is another one, so that all of them stand above those of the first half.
		whole.Keys = append(whole.Keys, append([]byte{key[0] + 100}, key[1:]...))
	}
	for range half.Pages {
		whole.Pages = append(whole.Pages, 2+len(whole.Pages))
	}
	return whole, len(half.Pages)
}

// Split: where a half has just as many bytes as there is room for, in its Kids or in all, it may be; one byte more may not.
func TestSplitLimit(t *testing.T) {
	for _, size := range sizes {
		room := size - 32
		k, middle := mirrored(size, room/2, "\xa0")
		full := made(k, append(stuffed(size, "\x01", 1, room-room/2-4), stuffed(size, "\xff", 1, room-room/2-4)...)...)
		for _, n := range []api.Buffered{made(k), full} {
			if at, err := node.Split(size, n); at != middle || err != api.OK {
				t.Errorf("Split(%d) of two halves of %d bytes: %d, %v, want %d", size, room/2, at, err, middle)
			}
			splits(t, size, n)
			for _, i := range []int{0, middle} {
				longer := copyOf(n)
				longer.Kids.Keys[i] = append(longer.Kids.Keys[i], 'x')
				if got := splits(t, size, longer); got != api.ErrNodeLong {
					t.Errorf("Split(%d) with a longer key %d: %v", size, i, got)
				}
			}
		}
		for _, i := range []int{0, len(full.Msgs) - 1} {
			longer := copyOf(full)
			longer.Msgs[i].Lo = append(longer.Msgs[i].Lo, 'x')
			if got := splits(t, size, longer); got != api.ErrNodeLong {
				t.Errorf("Split(%d) with a longer message %d: %v", size, i, got)
			}
		}
		wide := copyOf(full)
		wide.Kids.Keys[middle-1] = []byte("\xa0" + strings.Repeat("x", size/16-1))
		if got := splits(t, size, wide); got != api.OK {
			t.Errorf("Split(%d) with a long key between: %v", size, got)
		}
	}
}

// Split: halves are held against one another by all their bytes, and refused by those of their Kids too: the one that is least need not be the one that may be.
func TestSplitByKidsOfOneHalf(t *testing.T) {
	// Nearly all children are on the one side, and what waits is on the other one.
	var keys []string
	for i := range 40 {
		keys = append(keys, fmt.Sprintf("k%02d", i))
	}
	n := made(with(keys...), stuffed(512, "a", 1, 400)...)
	if got := splits(t, 512, n); got != api.ErrNodeLong {
		t.Errorf("Split: %v", got)
	}
}

// Nodes of very many children and messages: so many that going through all children for each message would be felt.
func TestMany(t *testing.T) {
	const children, each = 65534, 3
	number := func(i int) string { return digits(3, uint64(i)) }
	n := made(with())
	for i := range children {
		if i > 0 {
			n.Kids.Pages = append(n.Kids.Pages, 2+i)
			n.Kids.Keys = append(n.Kids.Keys, []byte(number(i)))
		}
		for j := range each {
			n.Msgs = append(n.Msgs, put(uint64(1+j), number(i)+"x", "v"))
		}
	}
	weights := node.Weights(n)
	if len(weights) != children || slices.Min(weights) != each*18 || slices.Max(weights) != each*18 {
		t.Errorf("Weights: %d of them, from %d to %d", len(weights), slices.Min(weights), slices.Max(weights))
	}
	left, taken, err := node.Take(n, children-1)
	if !sameMsgs(taken, n.Msgs[each*(children-1):]) || !same(left, made(n.Kids, n.Msgs[:each*(children-1)]...)) || err != api.OK {
		t.Errorf("Take: %d messages and %d, %v", len(left.Msgs), len(taken), err)
	}
	if k, err := node.Split(4096, n); k != 0 || err != api.ErrNodeLong {
		t.Errorf("Split: %d, %v", k, err)
	}
	n.Msgs[len(n.Msgs)-1].Stamp = 1
	if k, err := node.Split(4096, n); k != 0 || err != api.ErrMsgStamp {
		t.Errorf("Split, the last stamp being wrong: %d, %v", k, err)
	}
	if err := node.Check(4096, n); err != api.ErrBranchLong {
		t.Errorf("Check: %v", err)
	}
	n.Kids = with("\x00\x00\x01")
	for i := range n.Msgs {
		n.Msgs[i].Lo, n.Msgs[i].Stamp = []byte("x"), uint64(1+i)
	}
	if err := node.Check(4096, n); err != api.ErrNodeLong {
		t.Errorf("Check of many messages: %v", err)
	}
}
