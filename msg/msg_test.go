package msg_test

import (
	"bytes"
	"slices"
	"strings"
	"testing"

	"banyan/api"
	"banyan/msg"
	"banyan/order"
)

// The chapter's examples of what messages do.
func TestExamplesOfDeeds(t *testing.T) {
	if got := msg.Apply(entries("b=1 a=2 b=3"), of("p1 c=x, d2 a, r3 c-d")); !sameEntries(got, entries("b=3")) {
		t.Errorf("Apply: %s", showEntries(got))
	}
	for _, x := range []struct {
		m, key      string
		said, there bool
		value       string
	}{
		{"p1 b=x, r2 a-c", "b", true, false, ""},
		{"p1 b=x, r2 a-c", "c", false, false, ""},
		{"r1 a-c, p2 b=x", "b", true, true, "x"},
	} {
		if said, there, value := msg.Get(of(x.m), []byte(x.key)); said != x.said || there != x.there || string(value) != x.value {
			t.Errorf("Get(%s, %s): %v, %v, %q", x.m, x.key, said, there, value)
		}
	}
	hole := func(lo string, hi string) api.Piece {
		return api.Piece{Gone: api.Range{Lo: []byte(lo), Hi: []byte(hi)}}
	}
	c := api.Piece{Put: true, Key: []byte("c"), Value: []byte("x")}
	for _, x := range []struct {
		m    string
		want []api.Piece
	}{
		{"r1 a-f, p2 c=x, d3 k", []api.Piece{hole("a", "c"), c, hole("c\x00", "f"), hole("k", "k\x00")}},
		{"r1 a-c, r2 c-d, p3 b=x, d4 b", []api.Piece{hole("a", "d")}},
	} {
		if got := msg.Meaning(of(x.m)); !samePieces(got, x.want) {
			t.Errorf("Meaning(%s): %s", x.m, showPieces(got))
		}
	}
	if got := msg.Settle(of("p1 b=x, r2 a-c, p3 b=y, d4 z, r5 z-zz")); !same(got, of("r2 a-c, p3 b=y, r5 z-zz")) {
		t.Errorf("Settle: %s", show(got))
	}
	if got := msg.Within(of("p1 b=x, r2 a-z, d3 y"), api.Range{Lo: []byte("c"), Hi: []byte("y")}); !same(got, of("r2 c-y")) {
		t.Errorf("Within: %s", show(got))
	}
}

// The chapter's examples of bytes and of what may be.
func TestExamplesOfBytes(t *testing.T) {
	for _, x := range []struct {
		m    []api.Msg
		want api.Errno
	}{
		{of("p2 a=x, d2 b"), api.ErrMsgStamp}, {of("r1 c-a"), api.ErrMsgKind},
		{[]api.Msg{{Stamp: 1, Kind: api.Del, Lo: []byte("a"), Value: []byte("x")}}, api.ErrMsgKind}, {of("p1 =x"), api.ErrMsgKind},
	} {
		if got := msg.Check(512, x.m); got != x.want {
			t.Errorf("Check(%s): %v, want %v", show(x.m), got, x.want)
		}
	}
	if none, two := msg.Bytes(nil), msg.Bytes(of("p5 a=x, r6 a-c")); none != 4 || two != 4+15+15 {
		t.Errorf("Bytes: %d, %d", none, two)
	}
	const text = "\x00\x00\x00\x01\x00\x00\x00\x00\x00\x00\x00\x05\x02\x00\x01\x00\x00a"
	if b, err := msg.Encode(512, of("d5 a")); string(b) != text || err != api.OK {
		t.Errorf("Encode: %q, %v", b, err)
	}
	if m, err := msg.Decode(512, []byte(text)); !same(m, of("d5 a")) || err != api.OK {
		t.Errorf("Decode: %s, %v", show(m), err)
	}
}

// Check, Encode, Decode: a size that is none of the four is answered ahead of all else.
func TestWrongSizes(t *testing.T) {
	good := of("p1 a=x, d2 b, r3 a-c")
	for _, size := range wrongSizes {
		for _, m := range [][]api.Msg{nil, good, of("p0 ="), of("d2 a, d1 a"), {other(7, "a", "b", "c")}} {
			if err := msg.Check(size, m); err != api.ErrArg {
				t.Errorf("Check(%d, %s): %v", size, show(m), err)
			}
			if b, err := msg.Encode(size, m); len(b) != 0 || err != api.ErrArg {
				t.Errorf("Encode(%d, %s): %q, %v", size, show(m), b, err)
			}
		}
		for _, text := range []string{"", digits(4, 0), written(good), written(good)[:20]} {
			if m, err := msg.Decode(size, []byte(text)); len(m) != 0 || err != api.ErrArg {
				t.Errorf("Decode(%d, %q): %s, %v", size, text, show(m), err)
			}
		}
	}
}

// checks holds Check, Encode and Decode of what it would make against the model.
func checks(t *testing.T, size int, m []api.Msg) api.Errno {
	t.Helper()
	want := mayBe(size, m)
	if got := msg.Check(size, m); got != want {
		t.Errorf("Check(%d, %s): %v, want %v", size, show(m), got, want)
	}
	text := ""
	if want == api.OK {
		text = written(m)
	}
	if b, err := msg.Encode(size, m); string(b) != text || err != want {
		t.Errorf("Encode(%d, %s): %q, %v, want %v", size, show(m), b, err, want)
	}
	return want
}

// The first point: at each limit, and one beyond it, by every size and kind.
func TestLimits(t *testing.T) {
	for _, size := range sizes {
		key, value := strings.Repeat("k", size/16), strings.Repeat("v", size/4)
		for _, x := range []struct {
			kind          api.MsgKind
			lo, hi, value string
			want          api.Errno
		}{
			{1, "k", "", "", api.OK}, {1, key, "", value, api.OK}, {1, "\x00", "", "\x00", api.OK}, {1, "\xff", "", "v", api.OK},
			{1, "", "", "", api.ErrMsgKind}, {1, key + "k", "", "", api.ErrMsgKind}, {1, "k", "", value + "v", api.ErrMsgKind}, {1, "k", "l", "", api.ErrMsgKind}, {1, "k", "a", "v", api.ErrMsgKind},
			{2, "k", "", "", api.OK}, {2, key, "", "", api.OK},
			{2, "", "", "", api.ErrMsgKind}, {2, key + "k", "", "", api.ErrMsgKind}, {2, "k", "", "v", api.ErrMsgKind}, {2, "k", "l", "", api.ErrMsgKind}, {2, "k", "a", "", api.ErrMsgKind},
			{3, "k", "l", "", api.OK}, {3, key[1:], key, "", api.OK}, {3, "k", "k\x00", "", api.OK}, {3, "\x7f", "\x80", "", api.OK}, {3, key, "l", "", api.OK},
			{3, "", "l", "", api.ErrMsgKind}, {3, "k", "", "", api.ErrMsgKind}, {3, "", "", "", api.ErrMsgKind}, {3, "k", "k", "", api.ErrMsgKind}, {3, "l", "k", "", api.ErrMsgKind}, {3, "k\x00", "k", "", api.ErrMsgKind}, {3, "\x80", "\x7f", "", api.ErrMsgKind},
			{3, key, key + "k", "", api.ErrMsgKind}, {3, key + "k", "l", "", api.ErrMsgKind}, {3, "k", "l", "v", api.ErrMsgKind},
			{0, "k", "", "", api.ErrMsgKind}, {4, "k", "", "", api.ErrMsgKind}, {4, "k", "l", "", api.ErrMsgKind}, {-1, "k", "", "", api.ErrMsgKind}, {257, "k", "", "v", api.ErrMsgKind}, {1<<32 + 2, "k", "", "", api.ErrMsgKind}, {-1 << 63, "k", "", "", api.ErrMsgKind}, {1<<63 - 1, "k", "", "", api.ErrMsgKind},
		} {
			m := []api.Msg{other(x.kind, x.lo, x.hi, x.value)}
			if got := checks(t, size, m); got != x.want {
				t.Errorf("Check(%d, %s): %v, want %v", size, show(m), got, x.want)
			}
		}
	}
}

// The second point: stamps from 1 to 2^62, each above the one ahead.
func TestStamps(t *testing.T) {
	const last = 1 << 62
	for _, x := range []struct {
		stamps []uint64
		want   api.Errno
	}{
		{nil, api.OK}, {[]uint64{1}, api.OK}, {[]uint64{last}, api.OK}, {[]uint64{1, 2, last - 1, last}, api.OK}, {[]uint64{7, 1000, 1 << 40}, api.OK},
		{[]uint64{0}, api.ErrMsgStamp}, {[]uint64{last + 1}, api.ErrMsgStamp}, {[]uint64{1 << 63}, api.ErrMsgStamp}, {[]uint64{1<<64 - 1}, api.ErrMsgStamp},
		{[]uint64{1, 1}, api.ErrMsgStamp}, {[]uint64{2, 1}, api.ErrMsgStamp}, {[]uint64{1, 0}, api.ErrMsgStamp}, {[]uint64{last, last}, api.ErrMsgStamp}, {[]uint64{last, last + 1}, api.ErrMsgStamp},
		{[]uint64{1, 3, 2}, api.ErrMsgStamp}, {[]uint64{1, 3, 3, 4}, api.ErrMsgStamp}, {[]uint64{5, 6, 1}, api.ErrMsgStamp},
	} {
		for _, kind := range []string{"p0 a=x", "d0 a", "r0 a-b"} {
			var m []api.Msg
			for _, stamp := range x.stamps {
				one := of(kind)[0]
				one.Stamp = stamp
				m = append(m, one)
			}
			if got := checks(t, 512, m); got != x.want {
				t.Errorf("Check(%s): %v, want %v", show(m), got, x.want)
			}
		}
	}
}

// P2: of several faults that of the first message which has one; of that message's the one of the first point.
func TestFirstFault(t *testing.T) {
	for _, x := range []struct {
		m    string
		want api.Errno
	}{
		{"p0 =", api.ErrMsgKind}, {"r0 b-a", api.ErrMsgKind}, {"d5 a, d5 ", api.ErrMsgKind}, {"d5 a, r4 b-b", api.ErrMsgKind},
		{"d0 a, d1 ", api.ErrMsgStamp}, {"d1 , d0 a", api.ErrMsgKind}, {"d2 a, d1 b, r3 b-a", api.ErrMsgStamp}, {"d2 a, r3 b-a, d1 b", api.ErrMsgKind},
		{"d1 a, d2 b, p3 c=x, d3 d, d9 ", api.ErrMsgStamp},
	} {
		if got := checks(t, 512, of(x.m)); got != x.want {
			t.Errorf("Check(%s): %v, want %v", x.m, got, x.want)
		}
	}
}

// Check and Encode of lists of all kinds, at every size, against the model.
func TestCheckThrown(t *testing.T) {
	d := dice(71)
	seen := map[api.Errno]int{}
	for i := range 8000 {
		size := sizes[i%4]
		m := d.messages(size, d.below(8))
		for range d.below(4) {
			m = d.spoilt(size, m)
		}
		seen[checks(t, size, m)]++
	}
	for _, err := range []api.Errno{api.OK, api.ErrMsgKind, api.ErrMsgStamp} {
		if seen[err] < 500 {
			t.Errorf("%v came only %d times", err, seen[err])
		}
	}
}

// Bytes: of messages that may not be too: all three lists count, whatever the kind.
func TestBytesOfAny(t *testing.T) {
	long := strings.Repeat("k", 70000)
	for _, x := range []struct {
		m    []api.Msg
		want int
	}{
		{nil, 4}, {[]api.Msg{}, 4}, {[]api.Msg{{}}, 17}, {[]api.Msg{{}, {}}, 30}, {[]api.Msg{other(1, "a", "bc", "def")}, 4 + 13 + 6},
		{[]api.Msg{other(2, "a", "bc", "def")}, 4 + 13 + 6}, {[]api.Msg{other(3, "a", "bc", "def")}, 4 + 13 + 6}, {[]api.Msg{other(-5, "a", "bc", "def")}, 4 + 13 + 6},
		{[]api.Msg{other(3, long, long, long), del(0, "")}, 4 + 13 + 210000 + 13},
	} {
		if got := msg.Bytes(x.m); got != x.want {
			t.Errorf("Bytes(%s): %d, want %d", show(x.m), got, x.want)
		}
	}
	d := dice(72)
	for i := range 500 {
		m := d.messages(sizes[i%4], d.below(30))
		if got := msg.Bytes(m); got != len(written(m)) {
			t.Errorf("Bytes(%s): %d, want %d", show(m), got, len(written(m)))
		}
	}
}

// decodes holds Decode against the model, and tells whether the bytes were messages'. P7.5: Encode of what Decode tells is the bytes.
func decodes(t *testing.T, size int, text string) bool {
	t.Helper()
	want, wrong := toldBy(size, text)
	m, err := msg.Decode(size, []byte(text))
	if !same(m, want) || err != wrong {
		t.Fatalf("Decode(%d, %.200q): %s, %v, want %s, %v", size, text, show(m), err, show(want), wrong)
	}
	if err != api.OK {
		return false
	}
	if b, err := msg.Encode(size, m); string(b) != text || err != api.OK {
		t.Fatalf("Encode of Decode(%d, %.200q): %.200q, %v", size, text, b, err)
	}
	return true
}

// P7.5: Decode of Encode is the messages; no beginning of their bytes is messages', nor are they with some behind them.
func TestThereAndBack(t *testing.T) {
	d := dice(75)
	for i := range 300 {
		size := sizes[i%4]
		m := d.messages(size, d.below(9))
		b, err := msg.Encode(size, m)
		if err != api.OK {
			t.Fatalf("Encode(%d, %s): %v", size, show(m), err)
		}
		if got, err := msg.Decode(size, b); !same(got, m) || err != api.OK {
			t.Fatalf("Decode of Encode(%d, %s): %s, %v", size, show(m), show(got), err)
		}
		for n := range len(b) {
			if got, err := msg.Decode(size, b[:n]); len(got) != 0 || err != api.ErrMsgForm {
				t.Fatalf("Decode(%d) of the first %d bytes of %q: %s, %v", size, n, b, show(got), err)
			}
		}
		for _, more := range []string{"\x00", "x", "\x00\x00\x00\x00", raw(1<<62, 2, "a", ""), string(b)} {
			if got, err := msg.Decode(size, append(bytes.Clone(b), more...)); len(got) != 0 || err != api.ErrMsgForm {
				t.Fatalf("Decode(%d) of %q and %q behind it: %s, %v", size, b, more, show(got), err)
			}
		}
	}
}

// P7.5: bytes in which one is another one than it was.
func TestTurnedBytes(t *testing.T) {
	d := dice(76)
	told := 0
	for i := range 60 {
		size := sizes[i%4]
		b := []byte(written(d.messages(size, 1+d.below(5))))
		for at := range b {
			for _, by := range []byte{1, 2, 3, 0x40, 0x80, byte(1 + d.below(255))} {
				b[at] ^= by
				if decodes(t, size, string(b)) {
					told++
				}
				b[at] ^= by
			}
		}
	}
	if told < 1000 {
		t.Errorf("only %d turned bytes made other messages", told)
	}
}

// P7.5: bytes of up to two messages, whatever is wrong with them: stamps, kinds, keys, tails, and how many there should be.
func TestSmallForms(t *testing.T) {
	var one []string
	for _, stamp := range []uint64{0, 1, 2, 1 << 62, 1<<62 + 1} {
		for kind := range uint64(5) {
			for _, lo := range []string{"", "a", "b"} {
				for _, tail := range []string{"", "a", "b"} {
					one = append(one, raw(stamp, kind, lo, tail))
				}
			}
		}
	}
	told := 0
	for count := range uint64(4) {
		for _, first := range one {
			if decodes(t, 512, digits(4, count)+first) {
				told++
			}
			for _, second := range one {
				if decodes(t, 512, digits(4, count)+first+second) {
					told++
				}
			}
		}
	}
	if told < 200 {
		t.Errorf("only %d of the bytes were messages'", told)
	}
}

// Decode: bytes that Encode does not make: of messages that may not be at this size, of numbers that are too great.
func TestWrongForms(t *testing.T) {
	key, value := strings.Repeat("k", 32), strings.Repeat("v", 128)
	one := digits(4, 1)
	for _, text := range []string{
		"", "\x00", "\x00\x00\x00", digits(4, 1), digits(4, 1<<31), digits(4, 1<<32-1), digits(4, 0) + "\x00", digits(5, 0),
		one + raw(1, 1, key+"k", ""), one + raw(1, 1, "k", value+"v"), one + raw(1, 2, key+"k", ""), one + raw(1, 3, key, key+"l"), one + raw(1, 3, key+"k", "l"),
		one + raw(1, 2, "k", "l"), one + raw(1, 2, "k", "v"), one + raw(1, 3, "k", ""), one + raw(1, 3, "k", "k"), one + raw(1, 3, "l", "k"), one + raw(1, 255, "k", ""),
		one + head(1, 1, 65535, 0) + key, one + head(1, 1, 1, 65535) + key, one + head(1, 1, 65535, 65535) + key, one + head(1, 1, 33, 0) + key,
		digits(4, 1<<32-1) + raw(1, 1, "k", "v"), digits(4, 1<<31) + raw(1, 1, "k", "v"), digits(4, 1<<24+1) + raw(1, 1, "k", "v"), digits(4, 257) + raw(1, 1, "k", "v"),
		digits(4, 2) + raw(2, 1, "k", "v") + raw(2, 1, "k", "v"), digits(4, 2) + raw(2, 1, "k", "v") + raw(1, 1, "k", "v"),
	} {
		if m, err := msg.Decode(512, []byte(text)); len(m) != 0 || err != api.ErrMsgForm {
			t.Errorf("Decode(%.60q): %s, %v", text, show(m), err)
		}
		decodes(t, 512, text)
	}
	for _, text := range []string{one + raw(1, 1, key, value), one + raw(1<<62, 3, key[1:], key), digits(4, 0)} {
		if !decodes(t, 512, text) {
			t.Errorf("Decode(%.60q) refuses it", text)
		}
	}
	if m, err := msg.Decode(512, nil); len(m) != 0 || err != api.ErrMsgForm {
		t.Errorf("Decode of nil: %s, %v", show(m), err)
	}
}

// Decode: where few bytes tell of very many messages, no more are made than there are.
func TestDecodeOfFew(t *testing.T) {
	text := []byte(digits(4, 1<<32-1) + raw(1, 1, "k", "v"))
	made := testing.AllocsPerRun(1, func() {
		if m, err := msg.Decode(4096, text); len(m) != 0 || err != api.ErrMsgForm {
			t.Errorf("Decode: %d messages, %v", len(m), err)
		}
	})
	if made > 100 {
		t.Errorf("Decode made %v lists", made)
	}
}

// Messages may have more bytes than a page has room for: that is for others to say.
func TestMoreThanAPage(t *testing.T) {
	d := dice(77)
	m := d.messages(512, 70000)
	b, err := msg.Encode(512, m)
	if err != api.OK || len(b) != msg.Bytes(m) {
		t.Fatalf("Encode of many: %d bytes, %v", len(b), err)
	}
	if got, err := msg.Decode(512, b); !same(got, m) || err != api.OK {
		t.Errorf("Decode of many: %d messages, %v", len(got), err)
	}
}

// thrown are lists of messages of all kinds: some that may be, some of which few may be.
func thrown(d *dice, n int) [][]api.Msg {
	var list [][]api.Msg
	for i := range n {
		if i%2 == 0 {
			list = append(list, d.messages(sizes[i%4], d.below(14)))
		} else {
			list = append(list, d.strange(d.below(14)))
		}
	}
	return list
}

// applies holds Apply and Get of all keys that could matter against doing one message behind the other, and against one another (P7.1).
func applies(t *testing.T, l []api.Entry, m []api.Msg) {
	t.Helper()
	want := applied(l, m)
	got := msg.Apply(l, m)
	if !sameEntries(got, want) {
		t.Fatalf("Apply(%s; %s): %s, want %s", showEntries(l), show(m), showEntries(got), showEntries(want))
	}
	had := map[string]string{}
	for _, e := range l {
		had[string(e.Key)] = string(e.Value)
	}
	has := map[string]string{}
	for _, e := range got {
		has[string(e.Key)] = string(e.Value)
	}
	for _, key := range ends(append(copyOf(m), asMessages(l)...), "a\x80", "\xff\xff\xff\xff\xff") {
		said, there, value := msg.Get(m, []byte(key))
		told := unsaid
		switch {
		case said && there:
			told = gets + string(value)
		case said:
			told = gone
		}
		if told != fate(m, key) || !there && len(value) > 0 || there && !said {
			t.Fatalf("Get(%s, %q): %v, %v, %q, want %s", show(m), key, said, there, value, fate(m, key))
		}
		if !said {
			old, was := had[key]
			value, there = []byte(old), was
		}
		if now, is := has[key]; is != there || now != string(value) {
			t.Fatalf("Apply(%s; %s) and Get of %q are not at one", showEntries(l), show(m), key)
		}
	}
}

// asMessages are entries as Puts.
func asMessages(l []api.Entry) []api.Msg {
	var list []api.Msg
	for _, e := range l {
		list = append(list, put(0, string(e.Key), string(e.Value)))
	}
	return list
}

// P7.1: Apply and Get, of all short lists over few keys.
func TestApplySmall(t *testing.T) {
	full := entries("a=1 b=2 c=3")
	full = append(full, entry("a\x00", "4"), entry("", "5"), entry("a\x00\x00", "6"))
	for _, m := range lists(singles(), 2) {
		for _, l := range [][]api.Entry{nil, full, entries("b=1 a=2 b=3")} {
			applies(t, l, m)
		}
	}
}

// P7.1: Apply and Get, of any entries, in any order and with keys twice, and any messages, whether they may be or not.
func TestApplyThrown(t *testing.T) {
	d := dice(81)
	for _, m := range thrown(&d, 3000) {
		var l []api.Entry
		for range d.below(20) {
			l = append(l, entry(d.text(d.below(4)), d.text(d.below(3))))
		}
		applies(t, l, m)
	}
}

// What messages do hangs on how they stand, and not on their stamps.
func TestStampsAreNotLookedAt(t *testing.T) {
	for _, text := range []string{"p9 a=x, p1 a=y", "p5 a=x, p5 a=y", "r9 a-c, d8 a, p0 a=y"} {
		if said, there, value := msg.Get(of(text), []byte("a")); !said || !there || string(value) != "y" {
			t.Errorf("Get(%s): %v, %v, %q", text, said, there, value)
		}
		if got := msg.Apply(entries("a=1"), of(text)); !sameEntries(got, entries("a=y")) {
			t.Errorf("Apply(%s): %s", text, showEntries(got))
		}
	}
	if got := msg.Settle(of("p9 a=x, p1 a=y")); !same(got, of("p1 a=y")) {
		t.Errorf("Settle: %s", show(got))
	}
}

// Get: the key of no bytes, and a value of none: it is there.
func TestGetOfNothing(t *testing.T) {
	for _, x := range []struct {
		m           string
		said, there bool
	}{{"p1 =", true, true}, {"d1 ", true, false}, {"r1 -a", true, false}, {"p1 a=", false, false}, {"r1 a-b", false, false}} {
		for _, key := range [][]byte{nil, {}} {
			if said, there, value := msg.Get(of(x.m), key); said != x.said || there != x.there || len(value) > 0 {
				t.Errorf("Get(%s): %v, %v, %q", x.m, said, there, value)
			}
		}
	}
	if said, there, value := msg.Get(nil, []byte("a")); said || there || len(value) > 0 {
		t.Errorf("Get of no messages: %v, %v, %q", said, there, value)
	}
}

// Meaning has its form, and says of each key what becomes of it: of all short lists over few keys, and of thrown ones.
func TestMeaning(t *testing.T) {
	d := dice(82)
	for _, m := range append(lists(singles(), 3), thrown(&d, 3000)...) {
		if l := msg.Meaning(m); wrongWith(m, l) != "" {
			t.Fatalf("Meaning(%s): %s: %s", show(m), showPieces(l), wrongWith(m, l))
		}
	}
}

// Meaning's ranges are what order's Cover tells of them: in their form, and no two touch.
func TestMeaningIsCovered(t *testing.T) {
	d := dice(83)
	for _, m := range thrown(&d, 500) {
		var list []api.Range
		for _, p := range msg.Meaning(m) {
			if !p.Put {
				list = append(list, p.Gone)
			}
		}
		if !slices.EqualFunc(list, order.Cover(list), func(a, b api.Range) bool { return showRange(a) == showRange(b) }) {
			t.Fatalf("Meaning(%s) has ranges that meet or touch", show(m))
		}
	}
}

// P7.2: two lists do the same to every map just if their Meanings are the same.
func TestOneMeaning(t *testing.T) {
	full := entries("a=old b=old c=old")
	for _, key := range []string{"", "\x00", "\x00\x00", "a\x00", "a\x00\x00", "a\x01", "b\x00"} {
		full = append(full, entry(key, "old"))
	}
	meanings, deeds := map[string]string{}, map[string]string{}
	for _, m := range lists(singles(), 3) {
		// What is done to these two tells all that is done to any map: the keys that matter are in the one and not in the other.
		deed := showEntries(applied(full, m)) + " / " + showEntries(applied(nil, m))
		meaning := showPieces(msg.Meaning(m))
		if other, there := meanings[deed]; there && other != meaning {
			t.Fatalf("Meaning(%s): %s, and of another list that does the same: %s", show(m), meaning, other)
		}
		if other, there := deeds[meaning]; there && other != deed {
			t.Fatalf("Meaning(%s): %s, and a list that does something else has the same", show(m), meaning)
		}
		meanings[deed], deeds[meaning] = meaning, deed
	}
	if len(meanings) < 100 {
		t.Errorf("only %d meanings", len(meanings))
	}
}

// P7.2: Meaning of two lists as one is that of any two that do what they do.
func TestMeaningOfTwo(t *testing.T) {
	d := dice(84)
	all := thrown(&d, 2000)
	for i, m := range all {
		n := all[(i+1)%len(all)]
		want := msg.Meaning(slices.Concat(m, n))
		for _, backward := range []bool{false, true} {
			for _, first := range [][]api.Msg{m, msg.Settle(m), ofPieces(msg.Meaning(m), backward)} {
				for _, second := range [][]api.Msg{n, msg.Settle(n), ofPieces(msg.Meaning(n), backward)} {
					if got := msg.Meaning(slices.Concat(first, second)); !samePieces(got, want) {
						t.Fatalf("Meaning(%s; %s): %s, want %s", show(first), show(second), showPieces(got), showPieces(want))
					}
				}
			}
		}
	}
}

// settles holds Settle against the chapter's words, and P7.3: the same Meaning, Settle of itself, no more bytes.
func settles(t *testing.T, m []api.Msg) {
	t.Helper()
	want, got := settled(m), msg.Settle(m)
	if !same(got, want) {
		t.Fatalf("Settle(%s): %s, want %s", show(m), show(got), show(want))
	}
	if !samePieces(msg.Meaning(got), msg.Meaning(m)) {
		t.Fatalf("Settle(%s) has another Meaning", show(m))
	}
	if again := msg.Settle(got); !same(again, got) {
		t.Fatalf("Settle of Settle(%s): %s", show(m), show(again))
	}
	if msg.Bytes(got) > msg.Bytes(m) {
		t.Fatalf("Settle(%s) has more bytes", show(m))
	}
}

// P7.3: Settle, of all short lists over few keys, and of thrown ones.
func TestSettle(t *testing.T) {
	d := dice(85)
	for _, m := range append(lists(singles(), 3), thrown(&d, 2500)...) {
		settles(t, m)
	}
}

// Settle: what several later ones cover together goes, what they leave one key of stays, and nothing of it is cut.
func TestSettleOfCovered(t *testing.T) {
	for _, x := range []struct{ m, want string }{
		{"r1 a-d, r2 a-b, r3 b-d", "r2 a-b, r3 b-d"}, {"r1 a-d, r2 a-b, r3 bb-d", "r1 a-d, r2 a-b, r3 bb-d"},
		{"r1 a-d, r2 a-d", "r2 a-d"}, {"r1 a-d, r2 b-d", "r1 a-d, r2 b-d"}, {"r1 a-a\x00, d2 a", "d2 a"}, {"d1 a, r2 a-a\x00", "r2 a-a\x00"},
		{"r1 a-a\x00\x00, d2 a, p3 a\x00=x", "d2 a, p3 a\x00=x"}, {"p1 a=x, p2 a=x, p3 a=x", "p3 a=x"}, {"d1 a, d2 a", "d2 a"}, {"p1 a=x, d2 b", "p1 a=x, d2 b"},
		{"r1 b-b, r2 c-b, d3 a", "d3 a"}, {"r1 a-c, p2 c=x", "r1 a-c, p2 c=x"}, {"p1 c=x, r2 a-c", "p1 c=x, r2 a-c"},
	} {
		if got := msg.Settle(of(x.m)); !same(got, of(x.want)) {
			t.Errorf("Settle(%q): %s, want %q", x.m, show(got), x.want)
		}
	}
	strange := []api.Msg{other(1, "a", "z", "v"), other(2, "b", "z", "v"), other(3, "c", "z", "v")}
	if got := msg.Settle(strange); !same(got, strange) {
		t.Errorf("Settle(%s): %s", show(strange), show(got))
	}
}

// cuts holds Within against the chapter's words, and P7.4: of the range's keys the same, of others nothing.
func cuts(t *testing.T, m []api.Msg, r api.Range) {
	t.Helper()
	want, got := cutTo(m, r), msg.Within(m, r)
	if !same(got, want) {
		t.Fatalf("Within(%s, %s): %s, want %s", show(m), showRange(r), show(got), show(want))
	}
	for _, key := range ends(m, string(r.Lo), string(r.Hi)) {
		asked := unsaid
		if within(r, key) {
			asked = fate(m, key)
		}
		if fate(got, key) != asked {
			t.Fatalf("Within(%s, %s): %s, of %q", show(m), showRange(r), show(got), key)
		}
	}
}

// P7.4: Within, of all short lists over few keys, and of thrown ones.
func TestWithin(t *testing.T) {
	for _, r := range ranges("", "a", "a\x00", "a\x00\x00", "b", "c") {
		for _, m := range lists(singles(), 2) {
			cuts(t, m, r)
		}
	}
	d := dice(86)
	for _, m := range thrown(&d, 4000) {
		cuts(t, m, d.rangeOf())
	}
}

// Within: all else of a message stays as it is, also what may not be; those of other kinds are left out.
func TestWithinOfStrange(t *testing.T) {
	m := []api.Msg{other(1, "b", "z", "v"), other(2, "b", "y", "w"), other(3, "a", "z", "v"), other(3, "z", "a", "v"), other(0, "b", "z", ""), other(4, "b", "z", ""), other(-3, "b", "z", "")}
	for i := range m {
		m[i].Stamp = 1<<64 - 1 - uint64(i)
	}
	want := copyOf(m[:3])
	want[2].Lo, want[2].Hi = []byte("aa"), []byte("c")
	if got := msg.Within(m, api.Range{Lo: []byte("aa"), Hi: []byte("c")}); !same(got, want) {
		t.Errorf("Within: %s", show(got))
	}
	want[2].Lo, want[2].Hi = []byte("a"), []byte("z")
	if got := msg.Within(m, api.Range{All: true}); !same(got, want) {
		t.Errorf("Within of all: %s", show(got))
	}
	if got := msg.Within(m, api.Range{All: true, Hi: []byte("a")}); !same(got, want) {
		t.Errorf("Within of all, whatever its Hi: %s", show(got))
	}
}

// P7.4: Within of two ranges, one behind the other, is Within of their Meet.
func TestWithinTwice(t *testing.T) {
	d := dice(87)
	for _, m := range thrown(&d, 4000) {
		a, b := d.rangeOf(), d.rangeOf()
		if got, want := msg.Within(msg.Within(m, a), b), msg.Within(m, order.Meet(a, b)); !same(got, want) {
			t.Fatalf("Within(%s, %s) and %s: %s, want %s", show(m), showRange(a), showRange(b), show(got), show(want))
		}
	}
}

// P7.6: messages that may be still may be, if some are left out; so may what Settle and Within leave of them.
func TestStillMayBe(t *testing.T) {
	d := dice(88)
	for i := range 2000 {
		size := sizes[i%4]
		m := d.messages(size, d.below(12))
		var fewer []api.Msg
		for _, one := range m {
			if d.below(3) > 0 {
				fewer = append(fewer, one)
			}
		}
		r := api.Range{Lo: []byte(d.key(size)), Hi: []byte(d.key(size)), All: i%7 == 0}
		if i%5 == 0 {
			r.Lo = nil
		}
		for _, left := range [][]api.Msg{m, fewer, msg.Settle(m), msg.Within(m, r), msg.Settle(msg.Within(m, r)), msg.Within(m, api.Range{All: true})} {
			if err := msg.Check(size, left); err != api.OK {
				t.Fatalf("Check(%d, %s), left of %s: %v", size, show(left), show(m), err)
			}
		}
	}
}

// P1: calls of lists of nothing, and of messages that are zero.
func TestNothing(t *testing.T) {
	for _, m := range [][]api.Msg{nil, {}, {{}}, {{}, {}}, {{Kind: api.DelRange}}, {{Kind: 99}}} {
		if got := msg.Apply(nil, m); len(got) != 0 {
			t.Errorf("Apply(%s): %s", show(m), showEntries(got))
		}
		if got := msg.Meaning(m); len(got) != 0 {
			t.Errorf("Meaning(%s): %s", show(m), showPieces(got))
		}
		if got := msg.Settle(m); len(got) != 0 {
			t.Errorf("Settle(%s): %s", show(m), show(got))
		}
		if got := msg.Within(m, api.Range{All: true}); len(got) != 0 {
			t.Errorf("Within(%s): %s", show(m), show(got))
		}
		if got := msg.Apply(entries("b=1 a=2"), m); !sameEntries(got, entries("a=2 b=1")) {
			t.Errorf("Apply(%s): %s", show(m), showEntries(got))
		}
	}
}

// Many messages, each range within the one ahead, and Puts within them: so many that going through all of them for each one would be felt.
func TestMany(t *testing.T) {
	const n = 60000
	number := func(i int) string { return digits(3, uint64(i)) }
	var m []api.Msg
	for i := range n {
		m = append(m, cut(uint64(1+i), number(i), number(4*n-i)))
	}
	for i := range n {
		m = append(m, put(uint64(1+n+i), number(2*i+1)+"x", "v"))
	}
	var l []api.Entry
	for i := range 4 * n {
		l = append(l, entry(number(i), "old"))
	}
	// Of the ranges each one has its first key for itself, so that all of them stay.
	if got := msg.Settle(m); !same(got, m) {
		t.Errorf("Settle leaves %d messages", len(got))
	}
	if got := msg.Meaning(m); len(got) != 2*n+1 {
		t.Errorf("Meaning has %d pieces", len(got))
	}
	got := msg.Apply(l, m)
	if len(got) != n || string(got[0].Key) != number(1)+"x" || string(got[n-1].Key) != number(2*n-1)+"x" {
		t.Errorf("Apply has %d entries", len(got))
	}
	slices.Reverse(m)
	if got := msg.Settle(m); len(got) != 1 {
		t.Errorf("Settle, the widest range being last, leaves %d messages", len(got))
	}
}
