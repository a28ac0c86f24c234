package leaf_test

import (
	"bytes"
	"maps"
	"slices"
	"strings"
	"testing"

	"banyan/api"
	"banyan/leaf"
)

// The chapter's examples of entries as bytes.
func TestExamplesOfBytes(t *testing.T) {
	two := of("ab=1 abc=23")
	const bytesOfTwo = "\x00\x02\x00\x00\x00\x02\x00\x01ab1\x00\x02\x00\x01\x00\x02c23"
	if b, err := leaf.Encode(512, two); string(b) != bytesOfTwo || err != api.OK {
		t.Errorf("Encode: %q, %v", b, err)
	}
	if l, err := leaf.Decode(512, []byte(bytesOfTwo)); !same(l, two) || err != api.OK {
		t.Errorf("Decode: %s, %v", show(l), err)
	}
	if b, err := leaf.Encode(512, nil); string(b) != "\x00\x00" || err != api.OK {
		t.Errorf("Encode of nothing: %q, %v", b, err)
	}
	if none, some := leaf.Bytes(nil), leaf.Bytes(two); none != 2 || some != 20 {
		t.Errorf("Bytes: %d, %d", none, some)
	}
	const more = "\x00\x02\x00\x00\x00\x02\x00\x01ab1\x00\x01\x00\x02\x00\x02bc23"
	if l, err := leaf.Decode(512, []byte(more)); l != nil || err != api.ErrLeafForm {
		t.Errorf("Decode of what could be less: %s, %v", show(l), err)
	}
	for _, x := range []struct {
		l    []api.Entry
		want api.Errno
	}{
		{[]api.Entry{entry(strings.Repeat("k", 33), "")}, api.ErrLeafKey},
		{each("k", 129), api.ErrLeafValue}, {of("b= a="), api.ErrLeafOrder}, {each("abcd", 120), api.ErrLeafLong},
	} {
		if got := leaf.Check(512, x.l); got != x.want {
			t.Errorf("Check(%s): %v, want %v", show(x.l), got, x.want)
		}
	}
	if got := leaf.Bytes(each("abcd", 120)); got != 510 {
		t.Errorf("Bytes: %d", got)
	}
}

// The chapter's examples of entries as a map.
func TestExamplesOfMaps(t *testing.T) {
	l := of("a=1 c=3")
	for _, x := range []struct {
		key  string
		want int
		is   bool
	}{{"b", 1, false}, {"c", 1, true}, {"d", 2, false}} {
		if got, is := leaf.Find(l, []byte(x.key)); got != x.want || is != x.is {
			t.Errorf("Find(%q): %d, %v", x.key, got, is)
		}
	}
	for _, x := range []struct {
		e    api.Entry
		want string
	}{{entry("b", "2"), "a=1 b=2 c=3"}, {entry("c", "9"), "a=1 c=9"}} {
		if got := leaf.Set(l, x.e); !same(got, of(x.want)) {
			t.Errorf("Set: %s, want %s", show(got), x.want)
		}
	}
	for _, x := range []struct {
		r    api.Range
		want string
	}{{api.Range{Lo: []byte("b"), All: true}, "a=1"}, {api.Range{Lo: []byte("a"), Hi: []byte("c")}, "c=3"}} {
		if got, n := leaf.Cut(l, x.r); !same(got, of(x.want)) || n != 1 {
			t.Errorf("Cut: %s, %d, want %s", show(got), n, x.want)
		}
	}
	for _, x := range []struct {
		l    []api.Entry
		want int
		err  api.Errno
	}{{each("abcd", 120), 2, api.OK}, {of("a= ab= abc="), 2, api.OK}, {of("a="), 0, api.ErrArg}} {
		if got, err := leaf.Split(512, x.l); got != x.want || err != x.err {
			t.Errorf("Split(%s): %d, %v", show(x.l), got, err)
		}
	}
}

// Check, Encode, Decode, Split: a size that is none of the four is answered ahead of all else.
func TestWrongSizes(t *testing.T) {
	for _, size := range wrongSizes {
		for _, l := range [][]api.Entry{nil, of("a= b="), of("b= a="), {entry("", "")}, each("abcd", 4096)} {
			if err := leaf.Check(size, l); err != api.ErrArg {
				t.Errorf("Check(%d, %s): %v", size, show(l), err)
			}
			if b, err := leaf.Encode(size, l); b != nil || err != api.ErrArg {
				t.Errorf("Encode(%d, %s): %q, %v", size, show(l), b, err)
			}
			if n, err := leaf.Split(size, l); n != 0 || err != api.ErrArg {
				t.Errorf("Split(%d, %s): %d, %v", size, show(l), n, err)
			}
		}
		for _, text := range []string{"", "\x00\x00", "\x00\x01", written(of("a=1"))} {
			if l, err := leaf.Decode(size, []byte(text)); l != nil || err != api.ErrArg {
				t.Errorf("Decode(%d, %q): %s, %v", size, text, show(l), err)
			}
		}
	}
}

// Check: a key has 1 to size / 16 bytes, a value at most size / 4, and all at most size - 32; one byte more is refused.
func TestLimits(t *testing.T) {
	for _, size := range sizes {
		key, value := strings.Repeat("k", size/16), strings.Repeat("v", size/4)
		third := size - 32 - leaf.Bytes(each("abc", size/4)) - 7
		for _, x := range []struct {
			l    []api.Entry
			want api.Errno
		}{
			{nil, api.OK}, {[]api.Entry{}, api.OK},
			{[]api.Entry{entry("k", "")}, api.OK}, {[]api.Entry{entry("", "")}, api.ErrLeafKey}, {[]api.Entry{{}}, api.ErrLeafKey},
			{[]api.Entry{entry(key, value)}, api.OK},
			{[]api.Entry{entry(key+"k", value)}, api.ErrLeafKey},
			{[]api.Entry{entry(key, value+"v")}, api.ErrLeafValue},
			{append(each("abc", size/4), entry("d", value[:third])), api.OK},
			{append(each("abc", size/4), entry("d", value[:third+1])), api.ErrLeafLong},
			{append(each("abc", size/4), entry("dd", value[:third])), api.ErrLeafLong},
		} {
			if got := leaf.Check(size, x.l); got != x.want {
				t.Errorf("Check(%d, %d entries, %d bytes): %v, want %v", size, len(x.l), leaf.Bytes(x.l), got, x.want)
			}
			b, err := leaf.Encode(size, x.l)
			if err != x.want || err != api.OK && b != nil || err == api.OK && string(b) != written(x.l) {
				t.Errorf("Encode(%d, %d entries): %d bytes, %v, want %v", size, len(x.l), len(b), err, x.want)
			}
			if l, err := leaf.Decode(size, []byte(written(x.l))); (err == api.OK) != (x.want == api.OK) || err == api.OK && !same(l, x.l) {
				t.Errorf("Decode(%d) of %d entries: %v", size, len(x.l), err)
			}
		}
	}
}

// Check: of several faults the one of the first entry that has one; of that entry's the key's, the value's, the order's; ErrLeafLong behind all.
func TestFirstFault(t *testing.T) {
	const size = 512
	key, value := strings.Repeat("k", 33), strings.Repeat("v", 129)
	good := each("ghij", 120) // too long in all
	for _, x := range []struct {
		l    []api.Entry
		want api.Errno
	}{
		{[]api.Entry{entry("", value)}, api.ErrLeafKey}, {[]api.Entry{entry(key, value)}, api.ErrLeafKey},
		{append(copyOf(good), entry("", value)), api.ErrLeafKey}, {append(copyOf(good), entry("a", value)), api.ErrLeafValue},
		{append(copyOf(good), entry("a", "")), api.ErrLeafOrder}, {append(copyOf(good), entry("j", "")), api.ErrLeafOrder},
		{append(copyOf(good), entry("j", ""), entry("", "")), api.ErrLeafOrder}, {append(copyOf(good), entry("j", ""), entry("z", value)), api.ErrLeafOrder},
		{append(copyOf(good), entry("z", value), entry("", "")), api.ErrLeafValue}, {append(copyOf(good), entry("z", value), entry("y", "")), api.ErrLeafValue},
		{append(copyOf(good), entry(key, ""), entry("a", value)), api.ErrLeafKey},
		{append(copyOf(good), entry("jj", ""), entry("jj\x00", ""), entry("jj", "")), api.ErrLeafOrder},
		{good, api.ErrLeafLong},
	} {
		if got := leaf.Check(size, x.l); got != x.want {
			t.Errorf("Check(%s): %v, want %v", show(x.l), got, x.want)
		}
		if b, err := leaf.Encode(size, x.l); b != nil || err != x.want {
			t.Errorf("Encode(%s): %q, %v, want %v", show(x.l), b, err, x.want)
		}
		// Of these Split is OK where nothing but their length is wrong, and knows nothing of one that is alone.
		want := x.want
		if want == api.ErrLeafLong {
			want = api.OK
		} else if len(x.l) < 2 {
			want = api.ErrArg
		}
		if _, err := leaf.Split(size, x.l); err != want {
			t.Errorf("Split(%s): %v, want %v", show(x.l), err, want)
		}
	}
}

// Bytes, Check, Encode, Split of any lists, in order or not, against what the chapter's words ask.
func TestAgainstModel(t *testing.T) {
	d := dice(5)
	seen := map[api.Errno]int{}
	for i := range 6000 {
		size := sizes[i%4]
		l := d.entries(size, d.below(12))
		if i%2 == 0 {
			l = d.spoilt(size, l)
		}
		asked := mayBe(size, l)
		seen[asked]++
		if got := leaf.Check(size, l); got != asked {
			t.Fatalf("Check(%d, %s): %v, want %v", size, show(l), got, asked)
		}
		if got := leaf.Bytes(l); got != len(written(l)) {
			t.Fatalf("Bytes(%s): %d, want %d", show(l), got, len(written(l)))
		}
		if b, err := leaf.Encode(size, l); err != asked || asked == api.OK && string(b) != written(l) || asked != api.OK && b != nil {
			t.Fatalf("Encode(%d, %s): %q, %v", size, show(l), b, err)
		}
		n, err := leaf.Split(size, l)
		if m, want := halves(size, l); n != m || err != want {
			t.Fatalf("Split(%d, %s): %d, %v, want %d, %v", size, show(l), n, err, m, want)
		}
	}
	for _, err := range []api.Errno{api.OK, api.ErrLeafKey, api.ErrLeafValue, api.ErrLeafOrder, api.ErrLeafLong} {
		if seen[err] < 100 {
			t.Errorf("%v came only %d times", err, seen[err])
		}
	}
}

// Bytes: of entries that may not be too: without a key, not rising, alike, longer than any size allows.
func TestBytesOfAny(t *testing.T) {
	long := strings.Repeat("k", 70000)
	for _, x := range []struct {
		l    []api.Entry
		want int
	}{
		{[]api.Entry{{}}, 8}, {[]api.Entry{{}, {}}, 14}, {of("b= a="), 16}, {of("a=1 a=22"), 2 + 8 + 8},
		{[]api.Entry{entry("abc", ""), entry("ab", "")}, 2 + 9 + 6}, {[]api.Entry{entry(long, long)}, 2 + 6 + 140000},
		{[]api.Entry{entry(long, ""), entry(long+"k", "v")}, 2 + 6 + 70000 + 6 + 1 + 1},
	} {
		if got := leaf.Bytes(x.l); got != x.want {
			t.Errorf("Bytes: %d, want %d", got, x.want)
		}
	}
}

// P5.1: Decode of Encode is the entries; P5.2: no beginning of the bytes is a leaf's, nor are they with some behind them.
func TestThereAndBack(t *testing.T) {
	d := dice(51)
	for i := range 300 {
		size := sizes[i%4]
		l := d.leaf(size)
		b, err := leaf.Encode(size, l)
		if err != api.OK {
			t.Fatalf("Encode(%d, %s): %v", size, show(l), err)
		}
		if got, err := leaf.Decode(size, b); !same(got, l) || err != api.OK {
			t.Fatalf("Decode of Encode(%d, %s): %s, %v", size, show(l), show(got), err)
		}
		for n := range len(b) {
			if got, err := leaf.Decode(size, b[:n]); got != nil || err != api.ErrLeafForm {
				t.Fatalf("Decode(%d) of the first %d bytes of %q: %s, %v", size, n, b, show(got), err)
			}
		}
		for _, more := range []string{"\x00", "x", "\x00\x00", one(0, "", ""), one(0, "\xff\xff", ""), one(1, "\xff", "v"), string(b)} {
			if got, err := leaf.Decode(size, append(bytes.Clone(b), more...)); got != nil || err != api.ErrLeafForm {
				t.Fatalf("Decode(%d) of %q and %q behind it: %s, %v", size, b, more, show(got), err)
			}
		}
	}
}

// P5.2: Encode of what Decode tells is the bytes, of bytes in which one is another one than it was.
func TestOneFormOfTurnedBytes(t *testing.T) {
	d := dice(52)
	told := 0
	for i := range 40 {
		size := sizes[i%2]
		b, _ := leaf.Encode(size, d.leaf(size))
		for at := range b {
			for _, by := range []byte{1, 2, 0x80, byte(1 + d.below(255))} {
				b[at] ^= by
				l, err := leaf.Decode(size, b)
				switch {
				case err == api.ErrLeafForm && l == nil:
				case err == api.OK && mayBe(size, l) == api.OK && written(l) == string(b):
					told++
				default:
					t.Fatalf("Decode(%d, %q): %s, %v", size, b, show(l), err)
				}
				b[at] ^= by
			}
		}
	}
	if told == 0 {
		t.Error("no turned byte made another leaf")
	}
}

// small are all bytes with at most two entries, of which at most two bytes are left out and at most two follow, and with values of at most one byte, whatever is wrong with them.
func small() []string {
	var singles []string
	for left := range 3 {
		for _, further := range []string{"", "a", "b", "aa", "ab", "ba", "bb"} {
			for _, value := range []string{"", "v"} {
				singles = append(singles, one(left, further, value))
			}
		}
	}
	var list []string
	for count := range 4 {
		list = append(list, numbers(count))
		for _, first := range singles {
			list = append(list, numbers(count)+first)
			for _, second := range singles {
				list = append(list, numbers(count)+first+second)
			}
		}
	}
	return list
}

// P5.1, P5.2: of all small bytes just those are a leaf's that are the bytes of some entries.
func TestSmallForms(t *testing.T) {
	var keys []string
	for _, a := range []string{"", "a", "b", "aa", "ab", "ba", "bb"} {
		for _, b := range []string{"", "a", "b", "aa", "ab", "ba", "bb"} {
			keys = append(keys, a+b)
		}
	}
	forms := map[string][]api.Entry{written(nil): nil}
	add := func(l ...api.Entry) {
		if wrong(512, l) == api.OK {
			forms[written(l)] = l
		}
	}
	for _, a := range keys {
		for _, v := range []string{"", "v"} {
			add(entry(a, v))
			for _, b := range keys {
				add(entry(a, v), entry(b, ""))
				add(entry(a, v), entry(b, "v"))
			}
		}
	}
	leaves := 0
	for _, text := range small() {
		l, err := leaf.Decode(512, []byte(text))
		asked, is := forms[text]
		if is != (err == api.OK) || !same(l, asked) || !is && err != api.ErrLeafForm {
			t.Errorf("Decode(%q): %s, %v, want %s", text, show(l), err, show(asked))
		}
		if is {
			leaves++
		}
	}
	if leaves < 100 {
		t.Errorf("only %d of the bytes were a leaf's", leaves)
	}
}

// Decode: bytes that Encode does not make: of other entries than may be, of other sizes, of numbers that are too great.
func TestWrongForms(t *testing.T) {
	key := strings.Repeat("k", 32)
	for _, x := range []struct {
		size int
		text string
	}{
		{512, ""}, {512, "\x00"}, {512, "\x01"}, {512, numbers(1)}, {512, numbers(0, 0)}, {512, numbers(256)}, {512, numbers(65535)},
		{512, numbers(1) + one(1, "a", "")}, {512, numbers(1) + one(0, "", "v")},
		{512, numbers(1) + one(0, key+"k", "")}, {512, numbers(1) + one(0, "k", strings.Repeat("v", 129))},
		{512, numbers(2) + one(0, key, "") + one(32, "k", "")},
		{512, numbers(2) + one(0, "a", "") + one(1, "", "")},
		{512, numbers(2) + one(0, "b", "") + one(0, "a", "")},
		{512, numbers(2) + one(0, "ab", "") + one(1, "", "")},
		{512, numbers(2) + one(0, "ab", "") + one(1, "a", "")},
		{512, numbers(2) + one(0, "ab", "") + one(3, "a", "")},
		{512, numbers(2) + one(0, "ab", "") + one(0, "abc", "")},
		{512, numbers(2) + one(0, "ab", "") + one(0, "b", "") + one(0, "c", "")},
		{512, numbers(3) + one(0, "ab", "") + one(0, "b", "")},
		{512, numbers(1, 0, 65535, 0) + key}, {512, numbers(1, 0, 1, 65535) + key}, {512, numbers(1, 65535, 1, 0) + "k"}, {512, numbers(65535, 65535, 65535, 65535)},
		{512, written(each("abcd", 120))}, {512, written(each("a", 256))},
		{1024, written(each("abcd", 250))}, {2048, written([]api.Entry{entry(strings.Repeat("k", 129), "")})},
		{512, numbers(60000) + strings.Repeat(one(32, "k", ""), 60000)},
	} {
		if l, err := leaf.Decode(x.size, []byte(x.text)); l != nil || err != api.ErrLeafForm {
			t.Errorf("Decode(%d, %.60q): %d entries, %v", x.size, x.text, len(l), err)
		}
	}
	if l, err := leaf.Decode(512, nil); l != nil || err != api.ErrLeafForm {
		t.Errorf("Decode of nil: %s, %v", show(l), err)
	}
}

// Decode: of more bytes than a page has no list is made.
func TestDecodeOfMuch(t *testing.T) {
	text := []byte(numbers(65535) + one(0, strings.Repeat("k", 65535), "") + strings.Repeat(one(65535, "", ""), 1000))
	made := testing.AllocsPerRun(1, func() {
		if l, err := leaf.Decode(4096, text); l != nil || err != api.ErrLeafForm {
			t.Errorf("Decode: %d entries, %v", len(l), err)
		}
	})
	if made > 100 {
		t.Errorf("Decode made %v lists", made)
	}
}

// rows are all lists of some entries that rise, one of them without a key and one longer than any key may be.
func rows() [][]api.Entry {
	return subsets([]api.Entry{
		entry("", "none"), entry("\x00", ""), entry("a", "1"), entry("a\x00", "2"), entry("ab", ""),
		entry("b", strings.Repeat("v", 2000)), entry(strings.Repeat("k", 300), "long"), entry("\xff\xff", "end"),
	})
}

// asked are the keys of these, some between them, and ones ahead of all and behind all.
func asked() []string {
	return []string{"", "\x00", "\x00\x00", "a", "a\x00", "a\x00\x00", "aa", "ab", "b", strings.Repeat("k", 299), strings.Repeat("k", 300), "\xff", "\xff\xff", "\xff\xff\xff"}
}

// mapOf is the map that entries are.
func mapOf(l []api.Entry) map[string]string {
	m := map[string]string{}
	for _, e := range l {
		m[string(e.Key)] = string(e.Value)
	}
	return m
}

// P5.3: Find tells how many keys are below one, and whether that one is there, of any key.
func TestFind(t *testing.T) {
	for _, l := range rows() {
		m := mapOf(l)
		for _, key := range asked() {
			below := 0
			for k := range m {
				if k < key {
					below++
				}
			}
			_, there := m[key]
			if got, is := leaf.Find(l, []byte(key)); got != below || is != there {
				t.Errorf("Find(%s, %q): %d, %v, want %d, %v", show(l), key, got, is, below, there)
			}
		}
		if got, is := leaf.Find(l, nil); got != 0 || is != (len(l) > 0 && len(l[0].Key) == 0) {
			t.Errorf("Find(%s, nil): %d, %v", show(l), got, is)
		}
	}
}

// P5.3: behind Set Find tells the key with its value, and all other keys are as before, in order.
func TestSet(t *testing.T) {
	for _, l := range rows() {
		for _, key := range asked() {
			for _, value := range []string{"", "new"} {
				m := mapOf(l)
				m[key] = value
				got := leaf.Set(l, entry(key, value))
				if !maps.Equal(mapOf(got), m) || len(got) != len(m) || !slices.IsSortedFunc(got, func(a, b api.Entry) int { return bytes.Compare(a.Key, b.Key) }) {
					t.Errorf("Set(%s, %q): %s", show(l), key, show(got))
				}
				if at, is := leaf.Find(got, []byte(key)); !is || string(got[at].Value) != value {
					t.Errorf("Find behind Set(%s, %q): %d, %v", show(l), key, at, is)
				}
			}
		}
	}
}

// P5.3: behind Cut there are just those that the range has not, as they stood, and it tells how many it had; of any entries, rising or not.
func TestCut(t *testing.T) {
	lists := rows()
	for _, l := range lists[:128] {
		back := slices.Clone(l)
		slices.Reverse(back)
		lists = append(lists, back, slices.Concat(l, back))
	}
	for _, r := range ranges("", "\x00", "a", "ab", "ac", "kk", "\xff\xff") {
		for _, l := range lists {
			var want []api.Entry
			for _, e := range l {
				if !within(r, string(e.Key)) {
					want = append(want, e)
				}
			}
			if got, n := leaf.Cut(l, r); !same(got, want) || n != len(l)-len(want) {
				t.Errorf("Cut(%s, %+v): %s, %d", show(l), r, show(got), n)
			}
		}
	}
}

// Find and Set answer of entries that do not rise too.
func TestNotRising(t *testing.T) {
	d := dice(53)
	for range 2000 {
		var l []api.Entry
		for range d.below(9) {
			l = append(l, entry(d.text(d.below(3)), "v"))
		}
		key := d.text(d.below(3))
		if at, _ := leaf.Find(l, []byte(key)); at < 0 || at > len(l) {
			t.Fatalf("Find(%s, %q): %d", show(l), key, at)
		}
		if got := leaf.Set(l, entry(key, "new")); len(got) < len(l) || len(got) > len(l)+1 {
			t.Fatalf("Set(%s, %q): %s", show(l), key, show(got))
		}
	}
}

// Split: where the lesser one of the greater halves is just size - 32 it may be, and one byte more may not.
func TestSplitLimit(t *testing.T) {
	for _, size := range sizes {
		room := size - 32
		fill := func(key string, bytes int) []api.Entry { // entries, each key longer by one than the one ahead, of so many bytes without the 2
			var l []api.Entry
			for bytes > 0 {
				long := min(bytes-7, size/4)
				if left := bytes - 7 - long; left > 0 && left < 7 {
					long -= 7
				}
				l = append(l, entry(key+string(rune('a'+len(l))), strings.Repeat("v", long)))
				bytes -= 7 + long
			}
			return l
		}
		// The others' first key has its first letter alike with nothing, so that each half has its own bytes alone.
		half := fill("", room-2)
		if got := leaf.Bytes(half); got != room {
			t.Fatalf("a half has %d bytes of %d", got, room)
		}
		other := fill("", room-2)
		for i := range other {
			other[i].Key[0] += 'A' - 'a' + 64
		}
		l := slices.Concat(half, other)
		if n, err := leaf.Split(size, l); n != len(half) || err != api.OK {
			t.Errorf("Split(%d) of %d bytes: %d, %v", size, leaf.Bytes(l), n, err)
		}
		for i := range l {
			longer := copyOf(l)
			if len(longer[i].Value) == size/4 {
				continue
			}
			longer[i].Value = append(longer[i].Value, 'v')
			if n, err := leaf.Split(size, longer); n != 0 || err != api.ErrLeafLong {
				t.Errorf("Split(%d) of %d bytes: %d, %v", size, leaf.Bytes(longer), n, err)
			}
		}
	}
}

// Split: of several numbers that are as good the least; of two entries 1; what the first one of the others has alike with the last one that stays is counted there.
func TestSplitChoice(t *testing.T) {
	for _, x := range []struct {
		text string
		want int
	}{
		{"a= b=", 1}, {"a= b= c=", 1}, {"a= b= c= d=", 2}, {"a= b= c= d= e=", 2},
		{"a=12345678 b=", 1}, {"a= b=12345678", 1}, {"a= b= c=12345678901234", 2},
		{"abcdefgh= abcdefghi= abcdefghij= abcdefghijk=", 2}, {"aaaaaaaaaaaaaaaa= aaaaaaaaaaaaaaaab= c= d=", 2},
	} {
		l := of(x.text)
		if n, err := halves(512, l); n != x.want || err != api.OK {
			t.Fatalf("the model splits %s at %d, %v", x.text, n, err)
		}
		if n, err := leaf.Split(512, l); n != x.want || err != api.OK {
			t.Errorf("Split(%s): %d, %v, want %d", x.text, n, err, x.want)
		}
	}
}

// Split: fewer than two entries, whatever they are, and many more than two leaves hold.
func TestSplitOfFewAndMany(t *testing.T) {
	for _, l := range [][]api.Entry{nil, {}, of("a=1"), {entry("", "")}, each("a", 4096)} {
		if n, err := leaf.Split(512, l); n != 0 || err != api.ErrArg {
			t.Errorf("Split(%s): %d, %v", show(l), n, err)
		}
	}
	var many []api.Entry
	for i := range 1 << 16 {
		many = append(many, entry(numbers(i), ""))
	}
	if n, err := leaf.Split(4096, many); n != 0 || err != api.ErrLeafLong {
		t.Errorf("Split of many: %d, %v", n, err)
	}
	if got := leaf.Check(4096, many); got != api.ErrLeafLong {
		t.Errorf("Check of many: %v", got)
	}
}

// full makes leaves that have not one byte to spare, with values of all kinds of lengths.
func full(d *dice, size int) []api.Entry {
	l := d.leaf(size)
	for i := range l {
		spare := size - 32 - leaf.Bytes(l)
		more := min(spare, size/4-len(l[i].Value))
		l[i].Value = append(l[i].Value, strings.Repeat("f", more)...)
	}
	return l
}

// P5.4: where entries may be a leaf, and one more may be, Set of both may be a leaf, or is split into two that may be.
func TestNoDeadEnd(t *testing.T) {
	d := dice(54)
	long := 0
	for i := range 8000 {
		size := sizes[i%4]
		l := full(&d, size)
		e := entry(d.key(size), strings.Repeat("v", size/4-d.below(2)*d.below(size/4)))
		if i%2 == 0 {
			e.Key = append(bytes.Repeat([]byte("c"), size/16-1), byte(i))
		}
		set := leaf.Set(l, e)
		if leaf.Check(size, set) == api.OK {
			continue
		}
		long++
		n, err := leaf.Split(size, set)
		if err != api.OK || n < 1 || n >= len(set) {
			t.Fatalf("Split(%d, %s): %d, %v", size, show(set), n, err)
		}
		if leaf.Check(size, set[:n]) != api.OK || leaf.Check(size, set[n:]) != api.OK {
			t.Fatalf("Split(%d, %s): %d, and a half may not be a leaf", size, show(set), n)
		}
	}
	if long < 1000 {
		t.Errorf("only %d were too long", long)
	}
}

// P5.5: what Cut leaves of a leaf may be one, and has no more bytes.
func TestLessIsLess(t *testing.T) {
	d := dice(55)
	for i := range 4000 {
		size := sizes[i%4]
		l := full(&d, size)
		r := api.Range{Lo: []byte(d.key(size)), Hi: []byte(d.key(size)), All: i%5 == 0}
		left, _ := leaf.Cut(l, r)
		if err := leaf.Check(size, left); err != api.OK || leaf.Bytes(left) > leaf.Bytes(l) {
			t.Fatalf("Cut(%s, %+v): %s, %v, %d of %d bytes", show(l), r, show(left), err, leaf.Bytes(left), leaf.Bytes(l))
		}
	}
}

// P5.6: Bytes is at most what the whole entries have, and no way to leave a beginning out that the key ahead has makes it fewer.
func TestShort(t *testing.T) {
	d := dice(56)
	for i := range 3000 {
		l := d.entries(sizes[i%4], d.below(12))
		whole, fewest, ahead := 2, 2, ""
		for _, e := range l {
			all := 6 + len(e.Key) + len(e.Value)
			least := all
			for n := range len(e.Key) + 1 {
				if strings.HasPrefix(ahead, string(e.Key[:n])) {
					least = min(least, all-n)
				}
			}
			whole, fewest, ahead = whole+all, fewest+least, string(e.Key)
		}
		if got := leaf.Bytes(l); got > whole || got != fewest {
			t.Fatalf("Bytes(%s): %d, want %d", show(l), got, fewest)
		}
	}
}
