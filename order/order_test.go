package order_test

import (
	"bytes"
	"slices"
	"strings"
	"testing"

	"banyan/api"
	"banyan/order"
)

// The chapter's examples of keys.
func TestExamplesOfKeys(t *testing.T) {
	for _, x := range []struct {
		a, b string
		want int
	}{{"a", "ab", -1}, {"b", "ab", 1}, {"", "", 0}} {
		if got := order.Compare([]byte(x.a), []byte(x.b)); got != x.want {
			t.Errorf("Compare(%q, %q): %d", x.a, x.b, got)
		}
	}
	for _, x := range []struct {
		a, b string
		want int
	}{{"abc", "abd", 2}, {"a", "ab", 1}} {
		if got := order.Common([]byte(x.a), []byte(x.b)); got != x.want {
			t.Errorf("Common(%q, %q): %d", x.a, x.b, got)
		}
	}
	if got := order.Next([]byte("a")); string(got) != "a\x00" {
		t.Errorf("Next: %q", got)
	}
	for _, x := range []struct {
		a, b, want string
		err        api.Errno
	}{
		{"abc", "abf", "abf", api.OK}, {"ab", "abcd", "abc", api.OK}, {"", "x", "x", api.OK}, {"a", "bcd", "b", api.OK},
		{"a", "a", "", api.ErrOrderRange}, {"b", "a", "", api.ErrOrderRange},
	} {
		if got, err := order.Between([]byte(x.a), []byte(x.b)); string(got) != x.want || err != x.err {
			t.Errorf("Between(%q, %q): %q, %v", x.a, x.b, got, err)
		}
	}
}

// The chapter's examples of ranges.
func TestExamplesOfRanges(t *testing.T) {
	if !order.Empty(of("b", "a")) || !order.Empty(of("a", "a")) || order.Empty(from("a")) {
		t.Error("Empty")
	}
	if !order.Has(of("a", "c"), []byte("b")) || order.Has(of("a", "c"), []byte("c")) || !order.Has(from("a"), []byte("a")) {
		t.Error("Has")
	}
	for _, x := range []struct{ a, b, want api.Range }{
		{of("a", "c"), from("b"), of("b", "c")}, {of("a", "b"), of("b", "c"), zero}, {from("a"), from("b"), from("b")},
	} {
		if got := order.Meet(x.a, x.b); !same(got, x.want) {
			t.Errorf("Meet(%s): %s", show(x.a, x.b), show(got))
		}
	}
	if !order.Inside(of("b", "c"), from("a")) || !order.Inside(of("c", "a"), of("x", "y")) || order.Inside(from("a"), of("a", "z")) {
		t.Error("Inside")
	}
	for _, x := range []struct{ a, b, ahead, behind api.Range }{
		{of("a", "z"), of("c", "d"), of("a", "c"), of("d", "z")},
		{from("a"), of("c", "d"), of("a", "c"), from("d")},
		{of("a", "c"), from("b"), of("a", "b"), zero},
		{of("a", "c"), of("c", "a"), of("a", "c"), zero},
		{of("a", "c"), of("a", "z"), zero, zero},
	} {
		if ahead, behind := order.Minus(x.a, x.b); !same(ahead, x.ahead) || !same(behind, x.behind) {
			t.Errorf("Minus(%s): %s", show(x.a, x.b), show(ahead, behind))
		}
	}
	covers(t, []api.Range{of("d", "f"), of("a", "b"), of("b", "c"), of("e", "g"), of("z", "y")}, []api.Range{of("a", "c"), of("d", "g")})
}

// P4.1: as the library has texts in order; each byte is a number from 0 to 255.
func TestCompare(t *testing.T) {
	list := words(letters, 3)
	for i, a := range list {
		for j, b := range list {
			want := 0
			if i < j {
				want = -1
			} else if i > j {
				want = 1
			}
			if got := order.Compare([]byte(a), []byte(b)); got != want {
				t.Fatalf("Compare(%q, %q): %d, want %d", a, b, got, want)
			}
		}
	}
	for i := range 256 {
		for j := range 256 {
			a, b := []byte{'k', byte(i)}, []byte{'k', byte(j)}
			if got := order.Compare(a, b); got != bytes.Compare(a, b) {
				t.Errorf("Compare(%q, %q): %d", a, b, got)
			}
		}
	}
}

// P4.1: no key, of whichever kind, is the least one, and the same as no other key.
func TestNone(t *testing.T) {
	none := [][]byte{nil, {}, []byte("abc")[:0], []byte("abc")[3:]}
	for _, a := range none {
		for _, b := range none {
			if order.Compare(a, b) != 0 || order.Common(a, b) != 0 {
				t.Errorf("%v, %v: no bytes and no bytes are not the same", a, b)
			}
			if got, err := order.Between(a, b); len(got) != 0 || err != api.ErrOrderRange {
				t.Errorf("Between(%v, %v): %q, %v", a, b, got, err)
			}
			if !order.Empty(api.Range{Lo: a, Hi: b}) || order.Empty(api.Range{Lo: a, Hi: b, All: true}) {
				t.Errorf("Empty of %v, %v", a, b)
			}
		}
		for _, b := range []string{"\x00", "a", "\xff"} {
			if order.Compare(a, []byte(b)) != -1 || order.Compare([]byte(b), a) != 1 || order.Common(a, []byte(b)) != 0 {
				t.Errorf("no bytes and %q", b)
			}
			if got, err := order.Between(a, []byte(b)); string(got) != b || err != api.OK {
				t.Errorf("Between(%v, %q): %q, %v", a, b, got, err)
			}
			if got, err := order.Between([]byte(b), a); len(got) != 0 || err != api.ErrOrderRange {
				t.Errorf("Between(%q, %v): %q, %v", b, a, got, err)
			}
		}
		if got := order.Next(a); string(got) != "\x00" {
			t.Errorf("Next of no bytes: %q", got)
		}
		if !order.Has(api.Range{All: true}, a) || !order.Has(api.Range{Hi: []byte{0}}, a) || order.Has(zero, a) || order.Has(api.Range{Lo: []byte{0}, All: true}, a) {
			t.Error("Has of no bytes")
		}
	}
}

// P4.1: the place of the first byte in which two keys differ, or the shorter one's length.
func TestCommon(t *testing.T) {
	list := words(letters, 3)
	for _, a := range list {
		for _, b := range list {
			want := 0
			for want < min(len(a), len(b)) && strings.HasPrefix(b, a[:want+1]) {
				want++
			}
			if got := order.Common([]byte(a), []byte(b)); got != want {
				t.Fatalf("Common(%q, %q): %d, want %d", a, b, got, want)
			}
		}
	}
}

// P4.1 and P4.2 of keys of thousands of bytes, which differ at one place, or of which one is a beginning of the other.
func TestLongKeys(t *testing.T) {
	whole := bytes.Repeat([]byte("\x00k\xff"), 3000)
	for _, at := range []int{0, 1, 254, 255, 256, 4095, 4096, 8997, 8998} {
		less, more := bytes.Clone(whole), bytes.Clone(whole)
		less[at], more[at] = 0x7f, 0x80
		if order.Compare(less, more) != -1 || order.Compare(more, less) != 1 || order.Common(less, more) != at {
			t.Errorf("keys that differ at %d", at)
		}
		if got, err := order.Between(less, more); !bytes.Equal(got, more[:at+1]) || err != api.OK {
			t.Errorf("Between of keys that differ at %d: %d bytes, %v", at, len(got), err)
		}
		short := whole[:at]
		if order.Compare(short, whole) != -1 || order.Compare(whole, short) != 1 || order.Common(whole, short) != at {
			t.Errorf("a beginning of %d bytes", at)
		}
		if got, err := order.Between(short, whole); !bytes.Equal(got, whole[:at+1]) || err != api.OK {
			t.Errorf("Between of a beginning of %d bytes: %d bytes, %v", at, len(got), err)
		}
		if got := order.Next(short); !bytes.Equal(got[:at], short) || len(got) != at+1 || got[at] != 0 {
			t.Errorf("Next of %d bytes: %d bytes", at, len(got))
		}
	}
	if order.Compare(whole, bytes.Clone(whole)) != 0 || order.Common(whole, bytes.Clone(whole)) != len(whole) {
		t.Error("keys that are the same")
	}
}

// Next is above its key, and no key is between the two.
func TestNext(t *testing.T) {
	list := words(letters, 3)
	for _, a := range list {
		got := string(order.Next([]byte(a)))
		if got != a+"\x00" {
			t.Fatalf("Next(%q): %q", a, got)
		}
		for _, key := range list {
			if key > a && key < got {
				t.Fatalf("Next(%q): %q, but %q is between", a, got, key)
			}
		}
	}
}

// P4.2 of all pairs of keys: what is asked, one by one, and the error of all other pairs.
func TestBetween(t *testing.T) {
	list := words(letters, 3)
	for i, a := range list {
		for j, b := range list {
			key, err := order.Between([]byte(a), []byte(b))
			got := string(key)
			if i >= j {
				if err != api.ErrOrderRange || got != "" {
					t.Fatalf("Between(%q, %q): %q, %v", a, b, got, err)
				}
				continue
			}
			if err != api.OK || !strings.HasPrefix(b, got) || got <= a || got > b {
				t.Fatalf("Between(%q, %q): %q, %v", a, b, got, err)
			}
			if less := got[:len(got)-1]; !strings.HasPrefix(a, less) && less >= a {
				t.Fatalf("Between(%q, %q): %q, but %q is above too", a, b, got, less)
			}
			for _, other := range list[i+1 : j+1] {
				if len(other) < len(got) {
					t.Fatalf("Between(%q, %q): %q, but %q is shorter", a, b, got, other)
				}
			}
		}
	}
}

// Empty and Has of all ranges, key by key; of All every Hi counts for nothing.
func TestEmptyAndHas(t *testing.T) {
	keys := words("\x00a\xff", 3)
	for _, r := range ranges(ends()) {
		some := false
		for _, key := range keys {
			want := within(r, key)
			some = some || want
			if order.Has(r, []byte(key)) != want {
				t.Fatalf("Has(%s, %q): %v", show(r), key, !want)
			}
		}
		if order.Empty(r) == some {
			t.Fatalf("Empty(%s): %v", show(r), some)
		}
	}
}

// P4.3 and P4.4 of Meet: of all pairs of ranges, with the very form of the keys that both have.
func TestMeet(t *testing.T) {
	all := ranges(ends())
	for _, a := range all {
		for _, b := range all {
			want := run(t, ends(), func(key string) bool { return within(a, key) && within(b, key) })
			if got := order.Meet(a, b); !same(got, want) || !inForm(got) {
				t.Fatalf("Meet(%s): %s, want %s", show(a, b), show(got), show(want))
			}
		}
	}
}

// P4.4: ranges with the same keys have the same Meet with themselves: their form.
func TestMeetItself(t *testing.T) {
	for _, a := range ranges(ends()) {
		want := run(t, ends(), func(key string) bool { return within(a, key) })
		got := order.Meet(a, a)
		if !same(got, want) || !same(order.Meet(got, got), got) || !same(order.Meet(a, got), got) {
			t.Fatalf("Meet of %s with itself: %s, want %s", show(a), show(got), show(want))
		}
	}
}

// Inside of all pairs of ranges.
func TestInside(t *testing.T) {
	all := ranges(ends())
	for _, a := range all {
		for _, b := range all {
			want := true
			for _, key := range ends() {
				want = want && (!within(a, key) || within(b, key))
			}
			if order.Inside(a, b) != want {
				t.Fatalf("Inside(%s): %v", show(a, b), !want)
			}
		}
	}
}

// P4.3 and P4.4 of Minus: of all pairs of ranges, with the very forms of a's keys ahead of b and behind it.
func TestMinus(t *testing.T) {
	all := ranges(ends())
	for _, a := range all {
		for _, b := range all {
			empty := !b.All && string(b.Hi) <= string(b.Lo)
			wantAhead := run(t, ends(), func(key string) bool { return within(a, key) && (empty || key < string(b.Lo)) })
			wantBehind := run(t, ends(), func(key string) bool {
				return within(a, key) && !empty && !b.All && key >= string(b.Hi)
			})
			ahead, behind := order.Minus(a, b)
			if !same(ahead, wantAhead) || !same(behind, wantBehind) || !inForm(ahead) || !inForm(behind) {
				t.Fatalf("Minus(%s): %s, want %s", show(a, b), show(ahead, behind), show(wantAhead, wantBehind))
			}
		}
	}
}

// P4.3 key by key, with keys that are no ends of the ranges: of Meet, of Minus's two, of Cover's, and Inside by them.
func TestKeyByKey(t *testing.T) {
	keys := words("\x00a\xff", 3)
	few := ranges([]string{"", "\x00", "a", "a\x00", "a\xff", "\xff"})
	for _, a := range few {
		for _, b := range few {
			both := order.Meet(a, b)
			ahead, behind := order.Minus(a, b)
			either := order.Cover([]api.Range{a, b})
			for _, key := range keys {
				inA, inB := within(a, key), within(b, key)
				if order.Has(both, []byte(key)) != (inA && inB) {
					t.Fatalf("Meet(%s): %s, and %q", show(a, b), show(both), key)
				}
				inAhead, inBehind := order.Has(ahead, []byte(key)), order.Has(behind, []byte(key))
				if (inAhead || inBehind) != (inA && !inB) || inAhead && inBehind {
					t.Fatalf("Minus(%s): %s, and %q", show(a, b), show(ahead, behind), key)
				}
				has := func(r api.Range) bool { return order.Has(r, []byte(key)) }
				if slices.ContainsFunc(either, has) != (inA || inB) {
					t.Fatalf("Cover(%s): %s, and %q", show(a, b), show(either...), key)
				}
			}
			if order.Inside(a, b) != (order.Empty(ahead) && order.Empty(behind)) {
				t.Fatalf("Inside(%s), but Minus is %s", show(a, b), show(ahead, behind))
			}
		}
	}
}

// Cover of nothing, of empty ranges, of one range, of ones of All with a Hi.
func TestCoverFew(t *testing.T) {
	covers(t, nil, nil)
	covers(t, []api.Range{}, nil)
	covers(t, []api.Range{zero, of("b", "a"), of("a", "a")}, nil)
	covers(t, []api.Range{of("a", "c")}, []api.Range{of("a", "c")})
	covers(t, []api.Range{{Lo: []byte("b"), Hi: []byte("a"), All: true}}, []api.Range{from("b")})
	covers(t, []api.Range{{Lo: []byte("b"), Hi: []byte("x"), All: true}, of("c", "y"), of("a", "a\x00")}, []api.Range{of("a", "a\x00"), from("b")})
	covers(t, []api.Range{from("c"), of("a", "c"), of("x", "z")}, []api.Range{from("a")})
	covers(t, []api.Range{from("c"), from("b"), from("d")}, []api.Range{from("b")})
	covers(t, []api.Range{of("", "a"), {Lo: []byte("a"), Hi: []byte{}, All: true}}, []api.Range{from("")})
	covers(t, []api.Range{of("a", "z"), of("b", "c"), of("y", "z"), of("a", "b")}, []api.Range{of("a", "z")})
	covers(t, []api.Range{of("a", "b"), of("b\x00", "c")}, []api.Range{of("a", "b"), of("b\x00", "c")})
	covers(t, []api.Range{of("a", "b"), of("m", "m"), of("b", "c")}, []api.Range{of("a", "c")})
}

// P4.3 and P4.4 of Cover: of all pairs of ranges, and of many lists, with the very forms.
func TestCover(t *testing.T) {
	all := ranges(ends())
	hold := func(l []api.Range) {
		t.Helper()
		covers(t, l, runs(ends(), func(key string) bool {
			return slices.ContainsFunc(l, func(r api.Range) bool { return within(r, key) })
		}))
	}
	for _, a := range all {
		for _, b := range all {
			hold([]api.Range{a, b})
		}
	}
	bounded := slices.DeleteFunc(slices.Clone(all), func(r api.Range) bool { return r.All })
	short := slices.DeleteFunc(slices.Clone(bounded), func(r api.Range) bool { return spans(r) == 0 || spans(r) > 2 })
	d := dice(1)
	for range 4000 {
		hold(d.pick(all, d.below(6)))
		hold(d.pick(bounded, d.below(8)))
		hold(d.pick(short, d.below(9)))
	}
}

// spans is how many of the ends a range has.
func spans(r api.Range) int {
	n := 0
	for _, key := range ends() {
		if within(r, key) {
			n++
		}
	}
	return n
}

// P4.4: Cover does not hang on the order of its ranges, nor on how often one is there; Cover of Cover is Cover.
func TestCoverOneForm(t *testing.T) {
	all := ranges(ends())
	bounded := slices.DeleteFunc(slices.Clone(all), func(r api.Range) bool { return r.All })
	d := dice(2)
	for i := range 400 {
		l := d.pick(bounded, d.below(5))
		if i%4 == 0 {
			l = d.pick(all, d.below(5))
		}
		want := order.Cover(l)
		covers(t, want, want)
		covers(t, slices.Concat(l, want, l), want)
		for _, other := range orders(l) {
			covers(t, other, want)
		}
		formed := slices.Clone(l)
		for i := range formed {
			formed[i] = order.Meet(formed[i], formed[i])
		}
		covers(t, formed, want)
	}
}

// P4.3 and P4.4 of long lists: ranges far apart stay, in every order; neighbours that touch are one.
func TestCoverLong(t *testing.T) {
	d := dice(3)
	keys := words("\x00amz\xff", 4)
	var apart, touching []api.Range
	for i := 0; i+1 < len(keys); i += 2 {
		apart = append(apart, of(keys[i], keys[i+1]))
	}
	for i := range len(keys) - 1 {
		touching = append(touching, of(keys[i], keys[i+1]))
	}
	one := []api.Range{of(keys[0], keys[len(keys)-1])}
	for range 20 {
		covers(t, d.shuffle(apart), apart)
		covers(t, d.shuffle(touching), one)
		covers(t, d.shuffle(append(slices.Clone(touching), from(keys[7]))), []api.Range{from(keys[0])})
	}
}

// P4.3 and P4.4 of keys that were thrown: of lists of ranges that have many ends.
func TestThrown(t *testing.T) {
	d := dice(4)
	for range 3000 {
		var l []api.Range
		var ends []string
		for range 1 + d.below(12) {
			lo, hi := d.text(5), d.text(5)
			l = append(l, api.Range{Lo: []byte(lo), Hi: []byte(hi), All: d.below(20) == 0})
			ends = append(ends, lo, hi)
		}
		slices.Sort(ends)
		ends = slices.Compact(ends)
		covers(t, l, runs(ends, func(key string) bool {
			return slices.ContainsFunc(l, func(r api.Range) bool { return within(r, key) })
		}))
		a, b := l[0], l[len(l)-1]
		want := run(t, ends, func(key string) bool { return within(a, key) && within(b, key) })
		if got := order.Meet(a, b); !same(got, want) {
			t.Errorf("Meet(%s): %s, want %s", show(a, b), show(got), show(want))
		}
		ahead, behind := order.Minus(a, b)
		rest := runs(ends, func(key string) bool { return within(a, key) && !within(b, key) })
		if got := order.Cover([]api.Range{behind, ahead}); !sameList(got, rest) {
			t.Errorf("Minus(%s): %s, want %s", show(a, b), show(ahead, behind), show(rest...))
		}
	}
}
