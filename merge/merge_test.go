package merge_test

import (
	"fmt"
	"math"
	"slices"
	"testing"

	"banyan/api"
	"banyan/merge"
	"banyan/msg"
)

// few are keys of which one is without bytes, and each is a beginning of the next one, or just ahead of it.
var few = []string{"", "\x00", "a", "a\x00"}

// The chapter's examples, in their order.
func TestExamples(t *testing.T) {
	a, b := merge.Of(entries("a=1 c=3")), merge.Of(entries("a=9 b=2"))
	tells(t, "Union(A, B)", merge.Union([]merge.Seq{a, b}), entries("a=1 b=2 c=3"))
	tells(t, "Union(B, A)", merge.Union([]merge.Seq{b, a}), entries("a=9 b=2 c=3"))
	tells(t, "Union(nil, A)", merge.Union([]merge.Seq{nil, a}), entries("a=1 c=3"))
	tells(t, "With(A, ..)", merge.With(a, []api.Msg{put("b", "7"), del("c")}), entries("a=1 b=7"))
	tells(t, "With(nil, ..)", merge.With(nil, []api.Msg{put("b", "7")}), entries("b=7"))
	tells(t, "Within(A, b-d)", merge.Within(a, span("b", "d")), entries("c=3"))
	if one, none := merge.All(a, 1), merge.All(a, 0); show(one) != show(entries("a=1")) || len(none) != 0 {
		t.Errorf("All: %s; %s", show(one), show(none))
	}
	wrong := api.OK
	tells(t, "Check", merge.Check(merge.Of(entries("a=1 c=3 b=2 d=4")), &wrong), entries("a=1 c=3"))
	if wrong != 131 {
		t.Errorf("*wrong: %d", wrong)
	}
	if !merge.Same(a, a) || merge.Same(a, b) || merge.Same(a, nil) || !merge.Same(nil, nil) {
		t.Error("Same")
	}
}

// A nil telling tells nothing, wherever one is handed in; what is answered is never nil.
func TestNil(t *testing.T) {
	wrong := api.ErrArg
	for what, s := range map[string]merge.Seq{
		"Of(nil)":         merge.Of(nil),
		"Of of none":      merge.Of([]api.Entry{}),
		"Union(nil)":      merge.Union(nil),
		"Union of none":   merge.Union([]merge.Seq{}),
		"Union of nils":   merge.Union([]merge.Seq{nil, nil}),
		"With":            merge.With(nil, nil),
		"With, a Del":     merge.With(nil, []api.Msg{del("a"), cut("a", "c")}),
		"Within":          merge.Within(nil, from("")),
		"Within of none":  merge.Within(nil, api.Range{}),
		"Within of a few": merge.Within(nil, span("a", "b")),
		"Check, nil":      merge.Check(nil, nil),
		"Check":           merge.Check(nil, &wrong),
	} {
		tells(t, what, s, nil)
	}
	if wrong != api.OK {
		t.Errorf("Check of nil: %d", wrong)
	}
	for _, most := range []int{-1, 0, 1, math.MaxInt, math.MinInt} {
		if l := merge.All(nil, most); len(l) != 0 {
			t.Errorf("All(nil, %d): %s", most, show(l))
		}
	}
	one := merge.Of(entries("a=1"))
	if merge.Same(nil, one) || merge.Same(one, nil) || !merge.Same(nil, merge.Of(nil)) || !merge.Same(merge.Of(nil), nil) {
		t.Error("Same of nil")
	}
}

// Of, P13.1: any entries, as they stand: in any order, twice the same, without bytes.
func TestOf(t *testing.T) {
	for _, keys := range rows(few, 4) {
		l := keyed("v", keys...)
		tells(t, "Of", merge.Of(l), l)
	}
	r := dice(1)
	for range 300 {
		l := r.any(40)
		tells(t, "Of", merge.Of(l), l)
	}
	long := []api.Entry{entry(string(make([]byte, 100000)), string(make([]byte, 300000))), {}, {Key: []byte{}, Value: nil}, {Value: []byte("x")}}
	tells(t, "Of of long and empty ones", merge.Of(long), long)
}

// All: the first ones, as many as are asked for; the telling is left behind these, and not asked for one more.
func TestAll(t *testing.T) {
	for size := range 5 {
		l := keyed("v", []string{"b", "a", "a", "c"}[:size]...)
		for _, most := range []int{0, 1, 2, 3, 4, 5, 1000, math.MaxInt, -1, -2, math.MinInt} {
			w := watch(l)
			want, asked, begun := l, size+1, 1
			if most == 0 {
				want, asked, begun = nil, 0, 0
			} else if most > 0 && most <= size {
				want, asked = l[:most], most
			}
			if got := merge.All(w.seq, most); show(got) != show(want) {
				t.Errorf("All of %s, %d: %s", show(l), most, show(got))
			}
			if w.asked != asked || w.begun != begun || w.running != 0 {
				t.Errorf("All of %d, %d: asked for %d, not %d; ranged over %d times", size, most, w.asked, asked, w.begun)
			}
		}
	}
}

// Union of at most three tellings of all sets of few keys, nil ones among them, held against the chapter's words.
func TestUnion(t *testing.T) {
	for _, sets := range rows(subsets(few...), 3) {
		var l []merge.Seq
		var lists [][]api.Entry
		for i, keys := range sets {
			list := keyed(fmt.Sprint("v", i, "."), keys...)
			lists = append(lists, list)
			if len(list) == 0 && i != 1 {
				l = append(l, nil)
			} else {
				l = append(l, watch(list).seq)
			}
		}
		if got, want := told(merge.Union(l)), show(united(lists...)); got != want {
			t.Fatalf("Union of %q: %s, not %s", sets, got, want)
		}
	}
}

// Union of thrown tellings, few and many, of the same keys and of unlike ones.
func TestUnionThrown(t *testing.T) {
	r := dice(2)
	for round := range 400 {
		var l []merge.Seq
		var lists [][]api.Entry
		for range r.below(round%30 + 1) {
			list := r.rising(round % 60)
			l, lists = append(l, watch(list).seq), append(lists, list)
		}
		want := united(lists...)
		tells(t, "Union", merge.Union(l), want)
		if !rises(merge.All(merge.Union(l), -1)) {
			t.Fatal("Union does not rise")
		}
	}
}

// P13.2: of a Union and another one, either way, and of Unions of all parts, it is the Union of all; of one it is that one.
func TestUnionOfUnions(t *testing.T) {
	r := dice(3)
	for range 300 {
		var l []merge.Seq
		for range 1 + r.below(6) {
			l = append(l, merge.Of(r.rising(20)))
		}
		want := merge.All(merge.Union(l), -1)
		last := len(l) - 1
		tells(t, "of a Union and one", merge.Union([]merge.Seq{merge.Union(l[:last]), l[last]}), want)
		tells(t, "of one and a Union", merge.Union([]merge.Seq{l[0], merge.Union(l[1:])}), want)
		n := r.below(len(l) + 1)
		tells(t, "of two Unions", merge.Union([]merge.Seq{merge.Union(l[:n]), nil, merge.Union(l[n:])}), want)
		var deep merge.Seq
		for _, s := range slices.Backward(l) {
			deep = merge.Union([]merge.Seq{s, deep})
		}
		tells(t, "of Unions in Unions", deep, want)
		tells(t, "of one", merge.Union(l[:1]), merge.All(l[0], -1))
		if !merge.Same(deep, merge.Union(l)) {
			t.Fatal("Same")
		}
	}
}

// Union of so many that each entry finds its way among all of them.
func TestUnionOfMany(t *testing.T) {
	const many = 3000
	var l []merge.Seq
	var want []api.Entry
	for i := range many {
		l = append(l, merge.Of([]api.Entry{entry(fmt.Sprintf("%05d", many-i), fmt.Sprint(i)), entry("x", fmt.Sprint(i)), entry(fmt.Sprintf("y%05d", i), "")}))
		want = append(want, entry(fmt.Sprintf("%05d", i+1), fmt.Sprint(many-1-i)))
	}
	want = append(want, entry("x", "0"))
	for i := range many {
		want = append(want, entry(fmt.Sprintf("y%05d", i), ""))
	}
	if got := told(merge.Union(l)); got != show(want) {
		t.Error("Union of many tells otherwise")
	}
}

// singles are messages over few keys: Puts, Dels, ranges, empty ones, and some that do nothing.
func singles() []api.Msg {
	list := []api.Msg{cut("a", "a"), cut("a", ""), {Kind: 0, Lo: []byte("a"), Hi: []byte("b")}, {Kind: 4, Lo: []byte("a"), Value: []byte("v")}, {Kind: 3, Lo: []byte("a"), Hi: []byte("z"), Value: []byte("v")}}
	for i, lo := range few {
		list = append(list, put(lo, "new"), del(lo))
		for _, hi := range few[i+1:] {
			list = append(list, cut(lo, hi))
		}
	}
	return list
}

// With of all sets of few keys by all lists of at most two messages, held against the chapter's words and msg's Apply.
func TestWith(t *testing.T) {
	for _, keys := range subsets(few...) {
		l := keyed("old", keys...)
		for _, m := range rows(singles(), 2) {
			want := left(l, m)
			if got := told(merge.With(watch(l).seq, m)); got != show(want) || show(msg.Apply(l, m)) != got {
				t.Fatalf("With of %q by %v: %s, not %s", keys, m, got, show(want))
			}
		}
	}
}

// With of thrown tellings by thrown messages, none among both.
func TestWithThrown(t *testing.T) {
	r := dice(4)
	for round := range 1500 {
		l, m := r.rising(round%50), r.messages(round%37)
		tells(t, "With", merge.With(watch(l).seq, m), left(l, m))
		tells(t, "With of nil", merge.With(nil, m), left(nil, m))
		tells(t, "With by none", merge.With(watch(l).seq, nil), l)
	}
}

// With: the last message that says something of a key decides, whatever their stamps.
func TestWithOrder(t *testing.T) {
	a := merge.Of(entries("a=1 b=2 c=3 d=4"))
	for _, x := range []struct {
		m    []api.Msg
		want string
	}{
		{[]api.Msg{put("b", "x"), del("b")}, "a=1 c=3 d=4"},
		{[]api.Msg{del("b"), put("b", "x")}, "a=1 b=x c=3 d=4"},
		{[]api.Msg{cut("a", "d"), put("c", "x"), put("bb", "")}, "bb= c=x d=4"},
		{[]api.Msg{put("c", "x"), cut("a", "d")}, "d=4"},
		{[]api.Msg{cut("a", "b"), cut("b", "c"), cut("d", "zz")}, "c=3"},
		{[]api.Msg{cut("0", "zz")}, ""},
		{[]api.Msg{put("0", "x"), put("e", "y"), put("bb", "z")}, "0=x a=1 b=2 bb=z c=3 d=4 e=y"},
		{[]api.Msg{del("0"), del("bb"), del("e")}, "a=1 b=2 c=3 d=4"},
		{[]api.Msg{{Stamp: 9, Kind: api.Put, Lo: []byte("a"), Value: []byte("x")}, {Stamp: 3, Kind: api.Put, Lo: []byte("a"), Value: []byte("y")}}, "a=y b=2 c=3 d=4"},
	} {
		tells(t, "With", merge.With(a, x.m), entries(x.want))
	}
}

// P13.3: With by m, and then by n, is With by both; With within a range is the messages Within it, with the telling within it.
func TestMessages(t *testing.T) {
	r := dice(5)
	for range 1500 {
		l, m, n, k := merge.Of(r.rising(30)), r.messages(10), r.messages(10), r.span()
		both := merge.With(l, append(slices.Clone(m), n...))
		if !merge.Same(merge.With(merge.With(l, m), n), both) {
			t.Fatalf("With by %v and %v", m, n)
		}
		if !merge.Same(merge.Within(merge.With(l, m), k), merge.With(merge.Within(l, k), msg.Within(m, k))) {
			t.Fatalf("With by %v within %v", m, k)
		}
		if !rises(merge.All(both, -1)) {
			t.Fatal("With does not rise")
		}
	}
}

// Within of all sets of few keys by all ranges of them: what is told, and how far the telling is asked: up to the first key above all of the range's.
func TestWithin(t *testing.T) {
	ends := append([]string{"b"}, few...)
	for _, keys := range subsets(few...) {
		l := keyed("v", keys...)
		for _, lo := range ends {
			for _, hi := range ends {
				for _, all := range []bool{false, true} {
					r := api.Range{Lo: []byte(lo), Hi: []byte(hi), All: all}
					w := watch(l)
					if got, want := told(merge.Within(w.seq, r)), show(within(l, r)); got != want {
						t.Fatalf("Within of %q, %v: %s, not %s", keys, r, got, want)
					}
					asked := 0
					if all || lo < hi {
						asked = 1 + len(l)
						if i := slices.IndexFunc(keys, func(key string) bool { return !all && key >= hi }); i >= 0 {
							asked = i + 1
						}
					}
					if w.asked != asked || w.running != 0 || asked == 0 && w.begun > 0 {
						t.Fatalf("Within of %q, %v: asked for %d, not %d", keys, r, w.asked, asked)
					}
				}
			}
		}
	}
}

// Within of thrown tellings; of two ranges, one behind the other.
func TestWithinThrown(t *testing.T) {
	r := dice(6)
	for range 1500 {
		l, a, b := r.rising(40), r.span(), r.span()
		tells(t, "Within", merge.Within(watch(l).seq, a), within(l, a))
		tells(t, "Within of Within", merge.Within(merge.Within(watch(l).seq, a), b), within(within(l, a), b))
	}
}

// Check, P13.4, of all rows of few keys: what it tells, what it notes, and that it is left for the first key that is not above the one ahead.
func TestCheck(t *testing.T) {
	for _, keys := range rows(few, 5) {
		l := keyed("v", keys...)
		n, asked, want := len(l), len(l)+1, api.OK
		for i := range keys {
			if i > 0 && keys[i] <= keys[i-1] {
				n, asked, want = i, i+1, api.ErrMergeOrder
				break
			}
		}
		w, wrong := watch(l), api.ErrArg
		c := merge.Check(w.seq, &wrong)
		if wrong != api.ErrArg {
			t.Fatal("*wrong was set ahead of the loop")
		}
		if got := told(c); got != show(l[:n]) || wrong != want || w.asked != asked || w.running != 0 {
			t.Fatalf("Check of %q: %s, %d, asked for %d", keys, got, wrong, w.asked)
		}
		wrong = api.ErrArg
		tells(t, "Check", c, l[:n])
		if wrong != want {
			t.Fatalf("Check of %q again: %d", keys, wrong)
		}
		tells(t, "Check, nobody is told", merge.Check(w.seq, nil), l[:n])
	}
}

// Check: *wrong is set to OK when a loop begins, ahead of the first entry, and stays so, unless it is left for a key: not when the loop is left, nor by what is not asked for any more.
func TestCheckNotes(t *testing.T) {
	wrong := api.ErrArg
	c := merge.Check(merge.Of(entries("a=1 c=3 b=2")), &wrong)
	for key := range c {
		if wrong != api.OK {
			t.Fatalf("*wrong within the loop: %d", wrong)
		}
		if string(key) == "c" {
			break
		}
	}
	if wrong != api.OK {
		t.Errorf("*wrong of a loop that was left: %d", wrong)
	}
	for range c {
	}
	if wrong != api.ErrMergeOrder {
		t.Errorf("*wrong of a loop that was not left: %d", wrong)
	}
	for range c {
		if wrong != api.OK {
			t.Fatalf("*wrong within another loop: %d", wrong)
		}
	}
	if l := merge.All(c, 2); len(l) != 2 || wrong != api.OK {
		t.Errorf("All of two: %s, %d", show(l), wrong)
	}
	if l := merge.All(c, 3); len(l) != 2 || wrong != api.ErrMergeOrder {
		t.Errorf("All of three: %s, %d", show(l), wrong)
	}
	merge.All(merge.Check(nil, &wrong), -1)
	if wrong != api.OK {
		t.Errorf("*wrong of nil: %d", wrong)
	}
	other := api.ErrArg
	merge.All(merge.Check(merge.Check(merge.Of(entries("b=1 a=2")), &wrong), &other), -1)
	if wrong != api.ErrMergeOrder || other != api.OK {
		t.Errorf("Check of Check: %d, %d", wrong, other)
	}
}

// Same of all pairs of rows of few entries, in any order: its answer, and that each is ranged over once, and left at the first place in which they differ.
func TestSame(t *testing.T) {
	all := rows([]api.Entry{entry("a", "1"), entry("a", "2"), entry("b", "1"), {}}, 3)
	for _, a := range all {
		for _, b := range all {
			x, y := watch(a), watch(b)
			got := merge.Same(x.seq, y.seq)
			at := 0
			for at < min(len(a), len(b)) && show(a[at:at+1]) == show(b[at:at+1]) {
				at++
			}
			if want := at == len(a) && at == len(b); got != want {
				t.Fatalf("Same of %s and %s: %t", show(a), show(b), got)
			}
			if x.begun != 1 || y.begun != 1 || x.asked != at+1 || y.asked != at+1 || x.running+y.running != 0 {
				t.Fatalf("Same of %s and %s: ranged over %d and %d times, asked for %d and %d", show(a), show(b), x.begun, y.begun, x.asked, y.asked)
			}
		}
	}
	r := dice(7)
	for range 500 {
		l := r.any(30)
		if !merge.Same(merge.Of(l), watch(l).seq) || !merge.Same(watch(l).seq, merge.Of(l)) {
			t.Fatalf("Same of %s and itself", show(l))
		}
		if len(l) > 0 {
			other := slices.Clone(l)
			other[r.below(len(l))].Value = []byte("another one")
			if merge.Same(merge.Of(l), merge.Of(other)) || merge.Same(merge.Of(l), merge.Of(l[:len(l)-1])) || merge.Same(merge.Of(l[1:]), merge.Of(append(l[1:], entry("", "")))) {
				t.Fatalf("Same of %s and another one", show(l))
			}
		}
	}
}

// Of tellings that do not rise: Union, With and Within end, and tell nothing that none of them told.
func TestNotRising(t *testing.T) {
	r := dice(8)
	for range 2000 {
		lists := [][]api.Entry{r.any(20), r.any(20), r.rising(20)}
		m := r.messages(8)
		said := map[string]int{}
		var l []merge.Seq
		for _, list := range lists {
			l = append(l, watch(list).seq)
			for _, e := range list {
				said[show([]api.Entry{e})]++
			}
		}
		for _, s := range []merge.Seq{merge.Union(l), merge.Within(l[0], r.span()), merge.With(l[1], nil)} {
			for _, e := range merge.All(s, -1) {
				if said[show([]api.Entry{e})] == 0 {
					t.Fatalf("nobody told %s", show([]api.Entry{e}))
				}
			}
		}
		for _, one := range m {
			said[show([]api.Entry{{Key: one.Lo, Value: one.Value}})]++
		}
		for _, e := range merge.All(merge.With(l[0], m), -1) {
			if said[show([]api.Entry{e})] == 0 {
				t.Fatalf("nobody told %s", show([]api.Entry{e}))
			}
		}
	}
}
