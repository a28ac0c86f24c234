package order_test

import (
	"bytes"
	"fmt"
	"slices"
	"strings"
	"testing"

	"banyan/api"
	"banyan/order"
)

// of is the range from lo up to hi.
func of(lo string, hi string) api.Range { return api.Range{Lo: []byte(lo), Hi: []byte(hi)} }

// from is the range of All from lo on.
func from(lo string) api.Range { return api.Range{Lo: []byte(lo), All: true} }

// zero is the form of all empty ranges.
var zero = api.Range{}

// same tells whether two ranges have the same fields, none and nil being one.
func same(a api.Range, b api.Range) bool {
	return bytes.Equal(a.Lo, b.Lo) && bytes.Equal(a.Hi, b.Hi) && a.All == b.All
}

// sameList tells it of lists.
func sameList(a []api.Range, b []api.Range) bool { return slices.EqualFunc(a, b, same) }

// show writes ranges as the chapter's examples do.
func show(l ...api.Range) string {
	var list []string
	for _, r := range l {
		hi := fmt.Sprintf("%q", r.Hi)
		if r.All && len(r.Hi) == 0 {
			hi = ""
		} else if r.All {
			hi = "(" + hi + ")"
		}
		list = append(list, fmt.Sprintf("%q-%s", r.Lo, hi))
	}
	return strings.Join(list, ", ")
}

// words are all keys of at most so many bytes, of some letters, as the library has them in order.
func words(letters string, longest int) []string {
	list := []string{""}
	for long := list; longest > 0; longest-- {
		var longer []string
		for _, w := range long {
			for i := range len(letters) {
				longer = append(longer, w+letters[i:i+1])
			}
		}
		list, long = append(list, longer...), longer
	}
	slices.Sort(list)
	return list
}

// letters are the least byte, the one above it, two that are neighbours across the sign of 8 bits, and the greatest.
const letters = "\x00\x01\x7f\x80\xff"

// ends are the keys between which the model's ranges are, in order: there are beginnings of others, neighbours, and the one without bytes among them.
func ends() []string { return words("\x00a\xff", 2) }

// ranges are all that have two of these ends, empty ones and ones of All with every Hi among them.
func ranges(ends []string) []api.Range {
	var list []api.Range
	for _, lo := range ends {
		for _, hi := range ends {
			list = append(list, of(lo, hi), api.Range{Lo: []byte(lo), Hi: []byte(hi), All: true})
		}
	}
	return list
}

// within is whether a range has a key, by the chapter's words and the library's order.
func within(r api.Range, key string) bool {
	return key >= string(r.Lo) && (r.All || key < string(r.Hi))
}

// runs are the ranges, in their form, that rise and do not touch, of the keys for which in tells true.
//
// A set whose ranges begin and end at some of the ends is told by which of the
// ends it has: from one end up to the next one it has all keys or none.
func runs(ends []string, in func(key string) bool) []api.Range {
	var list []api.Range
	open := false
	for _, key := range ends {
		switch has := in(key); {
		case has && !open:
			list = append(list, from(key))
			open = true
		case !has && open:
			last := &list[len(list)-1]
			last.Hi, last.All = []byte(key), false
			open = false
		}
	}
	return list
}

// run is the one range, in its form, of the keys for which in tells true.
func run(t *testing.T, ends []string, in func(key string) bool) api.Range {
	t.Helper()
	list := runs(ends, in)
	switch len(list) {
	case 0:
		return zero
	case 1:
		return list[0]
	}
	t.Fatalf("the model's keys are no range: %s", show(list...))
	return zero
}

// inForm tells whether a range is in its form, by the chapter's words.
func inForm(r api.Range) bool {
	lo, hi := string(r.Lo), string(r.Hi)
	return r.All && hi == "" || !r.All && hi > lo || !r.All && hi == "" && lo == ""
}

// copyOf is a range with other memory.
func copyOf(r api.Range) api.Range {
	return api.Range{Lo: bytes.Clone(r.Lo), Hi: bytes.Clone(r.Hi), All: r.All}
}

// copyList is a list of ranges with other memory.
func copyList(l []api.Range) []api.Range {
	var list []api.Range
	for _, r := range l {
		list = append(list, copyOf(r))
	}
	return list
}

// orders are all ways in which a list can stand.
func orders(l []api.Range) [][]api.Range {
	if len(l) == 0 {
		return [][]api.Range{nil}
	}
	var list [][]api.Range
	for i := range l {
		for _, rest := range orders(slices.Delete(slices.Clone(l), i, i+1)) {
			list = append(list, append(rest, l[i]))
		}
	}
	return list
}

// dice are numbers that look thrown and are the same in every run.
type dice uint64

func (d *dice) next() uint64 {
	*d += 0x9e3779b97f4a7c15
	x := uint64(*d)
	x = (x ^ x>>30) * 0xbf58476d1ce4e5b9
	x = (x ^ x>>27) * 0x94d049bb133111eb
	return x ^ x>>31
}

func (d *dice) below(n int) int { return int(d.next() % uint64(n)) }

// text is some bytes, of few letters, so that many keys begin alike.
func (d *dice) text(longest int) string {
	var b strings.Builder
	for range d.below(longest + 1) {
		b.WriteByte(letters[d.below(len(letters))])
	}
	return b.String()
}

// pick is so many of some ranges, some perhaps more than once.
func (d *dice) pick(l []api.Range, n int) []api.Range {
	var list []api.Range
	for range n {
		list = append(list, l[d.below(len(l))])
	}
	return list
}

// shuffle is a list in another order.
func (d *dice) shuffle(l []api.Range) []api.Range {
	list := slices.Clone(l)
	for i := range list {
		j := i + d.below(len(list)-i)
		list[i], list[j] = list[j], list[i]
	}
	return list
}

// covers holds Cover against the ranges that are asked.
func covers(t *testing.T, l []api.Range, asked []api.Range) {
	t.Helper()
	if got := order.Cover(l); !sameList(got, asked) {
		t.Errorf("Cover(%s): %s, want %s", show(l...), show(got...), show(asked...))
	}
}
