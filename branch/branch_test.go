package branch_test

import (
	"bytes"
	"strings"
	"testing"

	"banyan/api"
	"banyan/branch"
	"banyan/order"
)

// The chapter's examples of bytes and of what may be.
func TestExamplesOfBytes(t *testing.T) {
	const text = "\x00\x03\x00\x00\x00\x05\x00\x00\x00\x09\x00\x00\x00\x04\x00\x01c\x00\x01f"
	if b, err := branch.Encode(512, example()); string(b) != text || err != api.OK {
		t.Errorf("Encode: %q, %v", b, err)
	}
	if k, err := branch.Decode(512, []byte(text)); !same(k, example()) || err != api.OK {
		t.Errorf("Decode: %s, %v", show(k), err)
	}
	if n := branch.Bytes(example()); n != 20 {
		t.Errorf("Bytes: %d", n)
	}
	for _, x := range []struct {
		k    api.Kids
		want api.Errno
	}{
		{kids("", 5), api.ErrBranchKids}, {kids("c", 5, 5), api.ErrBranchKids}, {kids("f c", 5, 9, 4), api.ErrBranchOrder},
		{kids(strings.Repeat("k", 33), 5, 9), api.ErrBranchKey}, {example(), api.OK},
	} {
		if got := branch.Check(512, x.k); got != x.want {
			t.Errorf("Check(%s): %v, want %v", show(x.k), got, x.want)
		}
	}
}

// The chapter's examples of children.
func TestExamplesOfChildren(t *testing.T) {
	for i, key := range []string{"b", "c", "z"} {
		if got := branch.Child(example(), []byte(key)); got != i {
			t.Errorf("Child(%q): %d", key, got)
		}
	}
	for _, x := range []struct {
		i    int
		want api.Range
		err  api.Errno
	}{{1, of("c", "d"), api.OK}, {2, api.Range{}, api.OK}, {3, api.Range{}, api.ErrArg}} {
		if got, err := branch.Span(example(), of("a", "d"), x.i); !sameRange(got, x.want) || err != x.err {
			t.Errorf("Span(%d): %s, %v", x.i, showRange(got), err)
		}
	}
	for _, x := range []struct {
		i, j     int
		by, want api.Kids
		err      api.Errno
	}{
		{1, 2, kids("d", 7, 8), kids("c d f", 5, 7, 8, 4), api.OK},
		{0, 3, kids("", 6), kids("", 6), api.OK}, {1, 1, kids("", 6), api.Kids{}, api.ErrArg},
	} {
		if got, err := branch.Replace(example(), x.i, x.j, x.by); !same(got, x.want) || err != x.err {
			t.Errorf("Replace(%d, %d, %s): %s, %v", x.i, x.j, show(x.by), show(got), err)
		}
	}
	if n, err := branch.Split(512, example()); n != 0 || err != api.ErrArg {
		t.Errorf("Split: %d, %v", n, err)
	}
	four := with("a", "b", strings.Repeat("k", 30))
	if n, err := branch.Split(512, four); n != 2 || err != api.OK {
		t.Errorf("Split of four: %d, %v", n, err)
	}
	if first, others := parts(four, 2); branch.Bytes(first) != 13 || branch.Bytes(others) != 42 {
		t.Errorf("the parts have %d and %d bytes", branch.Bytes(first), branch.Bytes(others))
	}
}

// B1, B3, B7: a size that is none of the four is answered ahead of all else.
func TestWrongSizes(t *testing.T) {
	good := with("a", "b", "c")
	text, _ := branch.Encode(512, good)
	for _, size := range wrongSizes {
		for _, k := range append(unfit(), good, with(""), kids("f c", 5, 5, 1)) {
			if err := branch.Check(size, k); err != api.ErrArg {
				t.Errorf("Check(%d, %s): %v", size, show(k), err)
			}
			if b, err := branch.Encode(size, k); len(b) != 0 || err != api.ErrArg {
				t.Errorf("Encode(%d, %s): %q, %v", size, show(k), b, err)
			}
			if n, err := branch.Split(size, k); n != 0 || err != api.ErrArg {
				t.Errorf("Split(%d, %s): %d, %v", size, show(k), n, err)
			}
		}
		for _, b := range [][]byte{nil, text, text[:5]} {
			if k, err := branch.Decode(size, b); !none(k) || err != api.ErrArg {
				t.Errorf("Decode(%d, %q): %s, %v", size, b, show(k), err)
			}
		}
	}
}

// checks holds Check and Encode, at every size, against the model.
func checks(t *testing.T, k api.Kids) {
	t.Helper()
	for _, size := range sizes {
		want := mayBe(size, k)
		if got := branch.Check(size, k); got != want {
			t.Errorf("Check(%d, %s): %v, want %v", size, show(k), got, want)
		}
		text := ""
		if want == api.OK {
			text = written(k)
		}
		if b, err := branch.Encode(size, k); string(b) != text || err != want {
			t.Errorf("Encode(%d, %s): %q, %v, want %v", size, show(k), b, err, want)
		}
	}
}

// B1: which children may be: how many, whether they fit, their numbers.
func TestCheckKids(t *testing.T) {
	for _, k := range append(append(unfit(), strange()...), rows()...) {
		checks(t, k)
	}
	for _, page := range []int{2, 3, 65534, 65535} {
		for _, k := range []api.Kids{kids("a", page, 9), kids("a", 9, page), kids("a b", 9, page, 8)} {
			if err := branch.Check(512, k); err != api.OK {
				t.Errorf("Check(%s): %v", show(k), err)
			}
		}
	}
	for _, page := range []int{0, 1, -1, -2, 65536, 65537, 1 << 31, 1<<32 + 2, 1<<63 - 1, -1 << 63} {
		for _, k := range []api.Kids{kids("a", page, 9), kids("a", 9, page), kids("a b", 9, page, 8)} {
			if err := branch.Check(4096, k); err != api.ErrBranchKids {
				t.Errorf("Check(%s): %v", show(k), err)
			}
		}
	}
	for i := range 6 {
		for j := range 6 {
			k := with("a", "b", "c", "d", "e")
			k.Pages[i] = k.Pages[j]
			want := api.ErrBranchKids
			if i == j {
				want = api.OK
			}
			if err := branch.Check(512, k); err != want {
				t.Errorf("Check(%s): %v", show(k), err)
			}
		}
	}
}

// B1: which keys may be: of 1 to size / 16 bytes, each above the one ahead, of which it may be no beginning.
func TestCheckKeys(t *testing.T) {
	for _, size := range sizes {
		most := strings.Repeat("k", size/16)
		for _, x := range []struct {
			k    api.Kids
			want api.Errno
		}{
			{with("a"), api.OK}, {with(most), api.OK}, {with("a", most), api.OK}, {with(most[1:], most), api.OK},
			{with("\x00"), api.OK}, {with("\x00", "\x00\x00"), api.OK}, {with("\x7f", "\x80"), api.OK}, {with("\xff", "\xff\x00"), api.OK},
			{with(""), api.ErrBranchKey}, {with(most + "k"), api.ErrBranchKey}, {with("", "a"), api.ErrBranchKey}, {with("a", most+"k"), api.ErrBranchKey}, {with("a", "", "b"), api.ErrBranchKey},
			{with("a", "a"), api.ErrBranchOrder}, {with("b", "a"), api.ErrBranchOrder}, {with("ab", "a"), api.ErrBranchOrder}, {with("\x80", "\x7f"), api.ErrBranchOrder}, {with("a", "c", "b"), api.ErrBranchOrder}, {with("a", "b", "b"), api.ErrBranchOrder},
		} {
			if got := branch.Check(size, x.k); got != x.want {
				t.Errorf("Check(%d, %s): %v, want %v", size, show(x.k), got, x.want)
			}
			checks(t, x.k)
		}
	}
}

// filled is children with keys of so many bytes in all, each key as it may be.
func filled(size int, room int) api.Kids {
	k := with("a0")
	for branch.Bytes(k) < room {
		spare := room - branch.Bytes(k)
		more := min(spare-6, size/16)
		if rest := spare - 6 - more; rest > 0 && rest < 8 {
			more -= 8
		}
		key := strings.Repeat("x", more)
		mark := string([]byte{'b' + byte(len(k.Keys)/64), ' ' + byte(len(k.Keys)%64)})
		k.Pages = append(k.Pages, 2+len(k.Pages))
		k.Keys = append(k.Keys, []byte(mark+key[2:]))
	}
	return k
}

// B1: as many bytes as there is room for may be, one more may not.
func TestCheckLong(t *testing.T) {
	for _, size := range sizes {
		k := filled(size, size-32)
		if n := branch.Bytes(k); n != size-32 {
			t.Fatalf("%d bytes, of %d", n, size-32)
		}
		if err := branch.Check(size, k); err != api.OK {
			t.Errorf("Check(%d) of %d bytes: %v", size, branch.Bytes(k), err)
		}
		checks(t, k)
		longer := copyOf(k)
		longer.Keys[0] = append(longer.Keys[0], 'x')
		if err := branch.Check(size, longer); err != api.ErrBranchLong {
			t.Errorf("Check(%d) of %d bytes: %v", size, branch.Bytes(longer), err)
		}
		checks(t, longer)
	}
}

// B1, P2: of several errors the one that is named first, wherever they stand.
func TestCheckFirst(t *testing.T) {
	const most = 32
	long := strings.Repeat("k", most+1)
	lots := with()
	for i := range 200 {
		lots.Pages = append(lots.Pages, 3+i)
		lots.Keys = append(lots.Keys, []byte{byte(i), 'x'})
	}
	spoil := func(change func(k api.Kids)) api.Kids {
		k := copyOf(lots)
		change(k)
		return k
	}
	for i, x := range []struct {
		k    api.Kids
		want api.Errno
	}{
		{lots, api.ErrBranchLong},
		{spoil(func(k api.Kids) { k.Keys[199] = []byte("\x00") }), api.ErrBranchOrder},
		{spoil(func(k api.Kids) { k.Keys[0], k.Keys[199] = []byte("\xff"), nil }), api.ErrBranchKey},
		{spoil(func(k api.Kids) { k.Keys[0], k.Keys[199] = []byte("\xff"), []byte(long) }), api.ErrBranchKey},
		{spoil(func(k api.Kids) { k.Keys[0], k.Pages[200] = nil, 1 }), api.ErrBranchKids},
		{spoil(func(k api.Kids) { k.Keys[0], k.Pages[200] = nil, k.Pages[0] }), api.ErrBranchKids},
		{with("b", "a", ""), api.ErrBranchKey}, {with("b", "a", long), api.ErrBranchKey}, {kids("b a", 1, 2, 3), api.ErrBranchKids},
		{kids(long, 5), api.ErrBranchKids}, {kids("b a "+long, 5, 6, 7), api.ErrBranchKids},
	} {
		if got := branch.Check(512, x.k); got != x.want {
			t.Errorf("%d: Check(%s): %v, want %v", i, show(x.k), got, x.want)
		}
	}
}

// B1, B3: children of all kinds, at every size, against the model.
func TestCheckThrown(t *testing.T) {
	d := dice(61)
	seen := map[api.Errno]int{}
	for i := range 6000 {
		size := sizes[i%4]
		k := d.kids(size, 1+d.below(5+i%60))
		for range d.below(3) {
			k = d.spoilt(size, k)
		}
		seen[mayBe(size, k)]++
		checks(t, k)
	}
	for _, err := range []api.Errno{api.OK, api.ErrBranchKids, api.ErrBranchKey, api.ErrBranchOrder, api.ErrBranchLong} {
		if seen[err] < 50 {
			t.Errorf("%v was asked for only %d times", err, seen[err])
		}
	}
}

// B2: of any Kids, whether they fit or not.
func TestBytes(t *testing.T) {
	for _, k := range append(append(unfit(), strange()...), rows()...) {
		if got := branch.Bytes(k); got != len(written(k)) {
			t.Errorf("Bytes(%s): %d, want %d", show(k), got, len(written(k)))
		}
	}
	if got := branch.Bytes(api.Kids{}); got != 2 {
		t.Errorf("Bytes of nothing: %d", got)
	}
	many := api.Kids{Pages: make([]int, 100000), Keys: make([][]byte, 100001)}
	many.Keys[7] = make([]byte, 70000)
	if got := branch.Bytes(many); got != 2+4*100000+2*100001+70000 {
		t.Errorf("Bytes of many: %d", got)
	}
}

// decodes holds Decode against the model, and Encode of what it tells against the bytes.
func decodes(t *testing.T, size int, text string) {
	t.Helper()
	want, err := toldBy(size, text)
	got, is := branch.Decode(size, []byte(text))
	if !same(got, want) || is != err {
		t.Fatalf("Decode(%d, %q): %s, %v, want %s, %v", size, text, show(got), is, show(want), err)
	}
	if err != api.OK {
		return
	}
	if b, err := branch.Encode(size, got); string(b) != text || err != api.OK {
		t.Fatalf("Encode(%d, %s): %q, %v, want %q", size, show(got), b, err, text)
	}
}

// P6.2: Decode of Encode is the Kids, at every size, up to the last byte that there is room for.
func TestThereAndBack(t *testing.T) {
	d := dice(62)
	for i := range 4000 {
		size := sizes[i%4]
		k := d.branch(size)
		if i < 4 {
			k = filled(size, size-32)
		}
		b, err := branch.Encode(size, k)
		if err != api.OK {
			t.Fatalf("Encode(%d, %s): %v", size, show(k), err)
		}
		if got, err := branch.Decode(size, b); !same(got, k) || err != api.OK {
			t.Fatalf("Decode(%d, %q): %s, %v, want %s", size, b, show(got), err, show(k))
		}
		for _, other := range sizes {
			decodes(t, other, string(b))
		}
	}
}

// P6.2: no beginning of a branch's bytes is a branch, nor what has bytes behind them.
func TestBeginningsAndMore(t *testing.T) {
	d := dice(63)
	for range 60 {
		text := written(d.branch(512))
		for n := range len(text) {
			if k, err := branch.Decode(512, []byte(text[:n])); !none(k) || err != api.ErrBranchForm {
				t.Errorf("Decode of a beginning of %d bytes of %q: %s, %v", n, text, show(k), err)
			}
		}
		for _, more := range []string{"\x00", "\x00\x00", "\x00\x01a", "\x00\x01\xff", "\x00\x00\x00\x07", text} {
			if k, err := branch.Decode(4096, []byte(text+more)); !none(k) || err != api.ErrBranchForm {
				t.Errorf("Decode of %q and %q: %s, %v", text, more, show(k), err)
			}
		}
	}
}

// P6.2: bytes of which one, or two, are others, against the model.
func TestTurnedBytes(t *testing.T) {
	for _, k := range []api.Kids{with("a"), example(), with("a", "ab", "b"), kids("b", 65535, 256), with("a", "aaaaaaaa", "c")} {
		text := []byte(written(k))
		for i := range text {
			for x := range 256 {
				turned := bytes.Clone(text)
				turned[i] = byte(x)
				decodes(t, 512, string(turned))
			}
			for j := range i {
				for _, x := range []byte{0, 1, 2, 3, 5, 9, 'a', 'b', 255} {
					for _, y := range []byte{0, 1, 2, 3, 4, 'c', 255} {
						turned := bytes.Clone(text)
						turned[i], turned[j] = x, y
						decodes(t, 512, string(turned))
					}
				}
			}
		}
	}
}

// B3: bytes that tell Kids which may not be a branch are no branch's: each fault by itself, and the limits of every size.
func TestDecodeRefuses(t *testing.T) {
	for _, size := range sizes {
		most := strings.Repeat("k", size/16)
		full := filled(size, size-32)
		longer := copyOf(full)
		longer.Keys[0] = append(longer.Keys[0], 'x')
		for i, x := range []struct {
			k    api.Kids
			want api.Errno
		}{
			{with("a"), api.OK}, {with("a", most), api.OK}, {full, api.OK}, {kids("a", 65535, 2), api.OK},
			{longer, api.ErrBranchForm}, {with("a", most+"k"), api.ErrBranchForm}, {with(""), api.ErrBranchForm}, {with("a", "a"), api.ErrBranchForm}, {with("b", "a"), api.ErrBranchForm},
			{kids("a", 5, 5), api.ErrBranchForm}, {kids("a", 1, 5), api.ErrBranchForm}, {kids("a", 5, 0), api.ErrBranchForm}, {kids("a", 65536, 5), api.ErrBranchForm}, {kids("a", 1<<32-1, 5), api.ErrBranchForm}, {kids("a", 1<<31, 5), api.ErrBranchForm},
			{with(), api.ErrBranchForm}, {api.Kids{}, api.ErrBranchForm}, {kids("", 5, 6), api.ErrBranchForm}, {kids("a b", 5, 6), api.ErrBranchForm}, {kids("a", 5), api.ErrBranchForm},
		} {
			got, err := branch.Decode(size, []byte(written(x.k)))
			if x.want != api.OK {
				x.k = api.Kids{}
			}
			if !same(got, x.k) || err != x.want {
				t.Errorf("%d: Decode(%d): %s, %v, want %v", i, size, show(got), err, x.want)
			}
		}
		for _, text := range []string{"", "\x00", "\x00\x02", "\xff\xff", "\xff\xff\xff\xff", strings.Repeat("\x00", size-32), strings.Repeat("\xff", size-32), strings.Repeat("\x00", size)} {
			if k, err := branch.Decode(size, []byte(text)); !none(k) || err != api.ErrBranchForm {
				t.Errorf("Decode(%d, %.20q): %s, %v", size, text, show(k), err)
			}
		}
		if k, err := branch.Decode(size, nil); !none(k) || err != api.ErrBranchForm {
			t.Errorf("Decode(%d, nil): %s, %v", size, show(k), err)
		}
	}
}

// B3: of more bytes than a page has no list is made, nor of a number of children that the bytes cannot hold.
func TestDecodeOfMuch(t *testing.T) {
	much := []byte(digits(2, 65535) + strings.Repeat("\x00\x00\x00\x07", 65535) + strings.Repeat(digits(2, 1)+"k", 65534))
	for _, text := range [][]byte{much, much[:4064]} {
		made := testing.AllocsPerRun(1, func() {
			if k, err := branch.Decode(4096, text); !none(k) || err != api.ErrBranchForm {
				t.Errorf("Decode: %s, %v", show(k), err)
			}
		})
		if made > 50 {
			t.Errorf("Decode made %v lists", made)
		}
	}
}

// childOf is what Child must answer, by the chapter's words.
func childOf(k api.Kids, key string) int {
	for i := range k.Keys {
		if string(k.Keys[i]) > key {
			return i
		}
	}
	return len(k.Keys)
}

// B4: Child of any Kids: that fit or not, with keys that rise or not; of any key.
func TestChild(t *testing.T) {
	for _, k := range append(append(unfit(), strange()...), rows()...) {
		for _, key := range asked() {
			if got, want := branch.Child(k, []byte(key)), childOf(k, key); got != want {
				t.Errorf("Child(%s, %q): %d, want %d", show(k), key, got, want)
			}
		}
		if got, want := branch.Child(k, nil), childOf(k, ""); got != want {
			t.Errorf("Child(%s, nil): %d, want %d", show(k), got, want)
		}
	}
	d := dice(64)
	for range 4000 {
		var k api.Kids
		for range d.below(9) {
			k.Keys = append(k.Keys, []byte(d.text(d.below(3))))
		}
		key := d.text(d.below(3))
		if got, want := branch.Child(k, []byte(key)), childOf(k, key); got != want {
			t.Fatalf("Child(%s, %q): %d, want %d", show(k), key, got, want)
		}
	}
}

// spanOf is the keys that a child has, by the chapter's words.
func spanOf(k api.Kids, i int) api.Range {
	r := api.Range{}
	if i > 0 {
		r.Lo = k.Keys[i-1]
	}
	if i == len(k.Pages)-1 {
		r.All = true
	} else {
		r.Hi = k.Keys[i]
	}
	return r
}

// B5: Span is order's Meet of the range and the child's keys, also of Kids that fit and may not be a branch.
func TestSpan(t *testing.T) {
	for _, k := range append(strange(), rows()...) {
		for _, r := range ranges("", "\x00", "a", "aa", "ab", "b", "\xff\xff", "\xff\xff\xff") {
			for i := range k.Pages {
				want := order.Meet(r, spanOf(k, i))
				got, err := branch.Span(k, r, i)
				if !sameRange(got, want) || err != api.OK {
					t.Errorf("Span(%s, %s, %d): %s, %v, want %s", show(k), showRange(r), i, showRange(got), err, showRange(want))
				}
				for _, key := range asked() {
					if within(got, key) != (within(r, key) && within(spanOf(k, i), key)) {
						t.Errorf("Span(%s, %s, %d): %s, and %q", show(k), showRange(r), i, showRange(got), key)
					}
				}
			}
		}
	}
}

// B5: ErrArg of children that are not there, and of Kids that do not fit, whatever the range.
func TestSpanRefuses(t *testing.T) {
	refused := func(k api.Kids, i int) {
		for _, r := range []api.Range{from(""), of("a", "c"), {}} {
			if got, err := branch.Span(k, r, i); !sameRange(got, api.Range{}) || err != api.ErrArg {
				t.Errorf("Span(%s, %s, %d): %s, %v", show(k), showRange(r), i, showRange(got), err)
			}
		}
	}
	for _, k := range append(strange(), rows()...) {
		for _, i := range []int{-1, len(k.Pages), len(k.Pages) + 1, 1<<63 - 1, -1 << 63} {
			refused(k, i)
		}
	}
	for _, k := range unfit() {
		for i := -1; i < 6; i++ {
			refused(k, i)
		}
	}
}

// P6.3: each key of a range is in the Span of one child alone, the one that Child tells; the Spans, in their order, cover the range.
func TestEachKeyHasAChild(t *testing.T) {
	for _, k := range rows() {
		for _, r := range ranges("", "\x00", "a", "aa", "ab", "b", "c", "\xff\xff") {
			var spans []api.Range
			for i := range k.Pages {
				span, err := branch.Span(k, r, i)
				if err != api.OK {
					t.Fatalf("Span(%s, %s, %d): %v", show(k), showRange(r), i, err)
				}
				spans = append(spans, span)
			}
			for _, key := range asked() {
				for i, span := range spans {
					is := within(r, key) && branch.Child(k, []byte(key)) == i
					if within(span, key) != is {
						t.Errorf("Span(%s, %s, %d): %s, and %q", show(k), showRange(r), i, showRange(span), key)
					}
				}
			}
			covers(t, r, spans)
		}
	}
}

// covers holds that ranges, one behind the other, are a range: each that is not empty begins where the one ahead ended.
func covers(t *testing.T, r api.Range, spans []api.Range) {
	t.Helper()
	var whole []api.Range
	for _, span := range spans {
		if order.Empty(span) {
			continue
		}
		if n := len(whole); n > 0 && (whole[n-1].All || !bytes.Equal(whole[n-1].Hi, span.Lo)) {
			t.Errorf("%s is behind %s", showRange(span), showRange(whole[n-1]))
		}
		whole = append(whole, span)
	}
	if len(whole) == 0 {
		if !order.Empty(r) {
			t.Errorf("nothing covers %s", showRange(r))
		}
		return
	}
	last := whole[len(whole)-1]
	if got := (api.Range{Lo: whole[0].Lo, Hi: last.Hi, All: last.All}); !sameRange(got, order.Meet(r, r)) {
		t.Errorf("%s covers %s", showRange(got), showRange(r))
	}
}

// replaced is what Replace must answer, built child by child: each with the key ahead of it.
func replaced(k api.Kids, i int, j int, by api.Kids) api.Kids {
	var list api.Kids
	add := func(from api.Kids, n int, ahead api.Kids, m int) {
		if len(list.Pages) > 0 {
			list.Keys = append(list.Keys, ahead.Keys[m])
		}
		list.Pages = append(list.Pages, from.Pages[n])
	}
	for n := range i {
		add(k, n, k, n-1)
	}
	for n := range by.Pages {
		if n == 0 {
			add(by, n, k, i-1)
		} else {
			add(by, n, by, n-1)
		}
	}
	for n := j; n < len(k.Pages); n++ {
		add(k, n, k, n-1)
	}
	return list
}

// B6: every place of Kids that fit, by others that fit, whether these may be a branch or not.
func TestReplace(t *testing.T) {
	others := append(strange(), kids("", 99), kids("x", 98, 99), with("p", "q", "r", "s"))
	all := append(strange(), with(), with("a"), with("a", "b"), with("a", "b", "c", "d", "e"))
	for _, k := range all {
		for _, by := range others {
			for i := range k.Pages {
				for j := i + 1; j <= len(k.Pages); j++ {
					want := replaced(k, i, j, by)
					if got, err := branch.Replace(k, i, j, by); !same(got, want) || err != api.OK {
						t.Errorf("Replace(%s, %d, %d, %s): %s, %v, want %s", show(k), i, j, show(by), show(got), err, show(want))
					}
				}
			}
		}
	}
}

// B6: ErrArg of places that are not there, or of no child, and of Kids that do not fit.
func TestReplaceRefuses(t *testing.T) {
	refused := func(k api.Kids, i int, j int, by api.Kids) {
		if got, err := branch.Replace(k, i, j, by); !none(got) || err != api.ErrArg {
			t.Errorf("Replace(%s, %d, %d, %s): %s, %v", show(k), i, j, show(by), show(got), err)
		}
	}
	for _, k := range []api.Kids{with(), with("a"), with("a", "b", "c")} {
		n := len(k.Pages)
		places := []int{-1 << 63, -2, -1, 0, 1, n - 1, n, n + 1, n + 2, 1<<63 - 1}
		for _, i := range places {
			for _, j := range places {
				if !(0 <= i && i < j && j <= n) {
					refused(k, i, j, kids("x", 8, 9))
				}
			}
		}
	}
	for _, k := range unfit() {
		for i := range 3 {
			for j := range 4 {
				refused(k, i, j, kids("", 9))
				refused(with("a", "b"), i, j, k)
				refused(k, i, j, k)
			}
		}
	}
}

// P6.4: the children ahead of i and from j on have the keys that they had; some children replaced by these themselves are the same.
func TestReplaced(t *testing.T) {
	whole := from("")
	for _, k := range rows() {
		for i := range k.Pages {
			for j := i + 1; j <= len(k.Pages); j++ {
				themselves := api.Kids{Pages: k.Pages[i:j], Keys: k.Keys[i : j-1]}
				if got, err := branch.Replace(k, i, j, themselves); !same(got, k) || err != api.OK {
					t.Errorf("Replace(%s, %d, %d, themselves): %s, %v", show(k), i, j, show(got), err)
				}
				for _, by := range []api.Kids{kids("", 99), kids("x", 98, 99), kids("x y z", 96, 97, 98, 99)} {
					got, _ := branch.Replace(k, i, j, by)
					for n := range k.Pages {
						at := n
						if n >= j {
							at = n - (j - i) + len(by.Pages)
						} else if n >= i {
							continue
						}
						had, _ := branch.Span(k, whole, n)
						has, err := branch.Span(got, whole, at)
						if err != api.OK || got.Pages[at] != k.Pages[n] || !sameRange(had, has) {
							t.Errorf("Replace(%s, %d, %d, %s): %s, and the child %d had %s, has %s", show(k), i, j, show(by), show(got), k.Pages[n], showRange(had), showRange(has))
						}
					}
				}
			}
		}
	}
}

// splits holds Split, at every size, against each number tried, and P6.5: both parts are the whole again.
func splits(t *testing.T, k api.Kids) {
	t.Helper()
	for _, size := range sizes {
		want, err := halves(size, k)
		n, is := branch.Split(size, k)
		if n != want || is != err {
			t.Fatalf("Split(%d, %s): %d, %v, want %d, %v", size, show(k), n, is, want, err)
		}
		if err != api.OK {
			continue
		}
		first, others := parts(k, n)
		two := api.Kids{Pages: []int{70, 71}, Keys: k.Keys[n-1 : n]}
		ahead, _ := branch.Replace(two, 0, 1, first)
		ahead, one := branch.Replace(ahead, n, n+1, others)
		behind, _ := branch.Replace(two, 1, 2, others)
		behind, other := branch.Replace(behind, 0, 1, first)
		if !same(ahead, k) || !same(behind, k) || one != api.OK || other != api.OK {
			t.Fatalf("the parts of %s by %d are %s, or %s", show(k), n, show(ahead), show(behind))
		}
	}
}

// B7: of any Kids that fit, of four children or more, whether they may be a branch or not.
func TestSplit(t *testing.T) {
	for _, k := range append(append(unfit(), strange()...), rows()...) {
		splits(t, k)
	}
	d := dice(65)
	for i := range 1000 {
		size := sizes[i%4]
		k := d.kids(size, 4+d.below(8+i%90))
		if i%3 == 0 {
			k = d.spoilt(size, k)
		}
		splits(t, k)
	}
	for _, k := range []api.Kids{kids("z y x", 1, 1, 1, 1), with("", "", ""), with("", "", "", "", "", ""), kids("a a a a", -1, 0, 1<<40, 7, 7)} {
		if n, err := branch.Split(512, k); n < 2 || err != api.OK {
			t.Errorf("Split(%s): %d, %v", show(k), n, err)
		}
		splits(t, k)
	}
}

// B7: of several numbers that are as good the least; the key between both parts is in neither.
func TestSplitChoice(t *testing.T) {
	long := strings.Repeat("m", 30)
	for _, x := range []struct {
		keys string
		want int
	}{
		{"a b c", 2}, {"a b c d", 2}, {"a b c d e", 3}, {"a b c d e f", 3}, {"a b c d e f g", 4},
		{"a b " + long + " x y", 3}, {"a " + long + " x y z", 2}, {"a b c " + long + " z", 4}, {long + " n o p q", 2}, {"a b c d " + long, 4},
		{"a b " + long + " " + long + " y", 3},
	} {
		k := with(strings.Fields(x.keys)...)
		if n, err := halves(512, k); n != x.want || err != api.OK {
			t.Fatalf("the model splits %s at %d, %v", x.keys, n, err)
		}
		if n, err := branch.Split(512, k); n != x.want || err != api.OK {
			t.Errorf("Split(%s): %d, %v, want %d", x.keys, n, err, x.want)
		}
	}
}

// B7: where the longer part has just as many bytes as there is room for it may be, one byte more may not.
func TestSplitLimit(t *testing.T) {
	for _, size := range sizes {
		half := filled(size, size-32)
		two := api.Kids{Pages: []int{70, 71}, Keys: [][]byte{[]byte("between")}}
		whole, _ := branch.Replace(two, 0, 1, half)
		whole, _ = branch.Replace(whole, len(half.Pages), len(half.Pages)+1, half)
		if n, err := branch.Split(size, whole); n != len(half.Pages) || err != api.OK {
			t.Errorf("Split(%d) of two halves: %d, %v, want %d", size, n, err, len(half.Pages))
		}
		for _, i := range []int{0, len(whole.Keys) - 1} {
			longer := copyOf(whole)
			longer.Keys[i] = append(longer.Keys[i], 'x')
			if n, err := branch.Split(size, longer); n != 0 || err != api.ErrBranchLong {
				t.Errorf("Split(%d) with a longer key %d: %d, %v", size, i, n, err)
			}
		}
		longer := copyOf(whole)
		longer.Keys[len(half.Keys)] = make([]byte, 70000)
		if n, err := branch.Split(size, longer); n != len(half.Pages) || err != api.OK {
			t.Errorf("Split(%d) with a long key between: %d, %v", size, n, err)
		}
	}
}

// B7: fewer than four children, whatever they are; and very many.
func TestSplitOfFewAndMany(t *testing.T) {
	for _, k := range append(unfit(), with(), with("a"), with("a", "b"), with(""), kids("a b c d", 5, 6, 7, 8), kids("a b", 5, 6, 7, 8)) {
		if n, err := branch.Split(512, k); n != 0 || err != api.ErrArg {
			t.Errorf("Split(%s): %d, %v", show(k), n, err)
		}
	}
	many := api.Kids{Pages: make([]int, 1<<17), Keys: make([][]byte, 1<<17-1)}
	if n, err := branch.Split(4096, many); n != 0 || err != api.ErrBranchLong {
		t.Errorf("Split of many: %d, %v", n, err)
	}
	if err := branch.Check(4096, many); err != api.ErrBranchKids {
		t.Errorf("Check of many: %v", err)
	}
	for i := range many.Pages {
		many.Pages[i] = 2 + i
	}
	if err := branch.Check(4096, api.Kids{Pages: many.Pages[:65534], Keys: many.Keys[:65533]}); err != api.ErrBranchKey {
		t.Errorf("Check of all children that there can be: %v", err)
	}
}
