package merge_test

import (
	"bytes"
	"fmt"
	"maps"
	"slices"
	"strings"
	"testing"

	"banyan/api"
	"banyan/merge"
)

// entry is a key and its value.
func entry(key string, value string) api.Entry {
	return api.Entry{Key: []byte(key), Value: []byte(value)}
}

// entries are those that a text such as "a=1 b=" tells.
func entries(text string) []api.Entry {
	var list []api.Entry
	for _, word := range strings.Fields(text) {
		key, value, _ := strings.Cut(word, "=")
		list = append(list, entry(key, value))
	}
	return list
}

// keyed are entries of these keys, with values by which they can be told apart from others.
func keyed(mark string, keys ...string) []api.Entry {
	var list []api.Entry
	for i, key := range keys {
		list = append(list, entry(key, fmt.Sprint(mark, i)))
	}
	return list
}

// put, del, cut are a message of each kind.
func put(key string, value string) api.Msg {
	return api.Msg{Stamp: 1, Kind: api.Put, Lo: []byte(key), Value: []byte(value)}
}

func del(key string) api.Msg { return api.Msg{Stamp: 1, Kind: api.Del, Lo: []byte(key)} }

func cut(lo string, hi string) api.Msg {
	return api.Msg{Stamp: 1, Kind: api.DelRange, Lo: []byte(lo), Hi: []byte(hi)}
}

// span is the range from lo up to hi, from that of All.
func span(lo string, hi string) api.Range { return api.Range{Lo: []byte(lo), Hi: []byte(hi)} }
func from(lo string) api.Range            { return api.Range{Lo: []byte(lo), All: true} }

// show writes entries so that they can be told apart.
func show(l []api.Entry) string {
	var b strings.Builder
	for _, e := range l {
		fmt.Fprintf(&b, "%q=%q ", e.Key, e.Value)
	}
	return b.String()
}

// told is what a telling tells, by a loop.
func told(s merge.Seq) string {
	var list []api.Entry
	for key, value := range s {
		list = append(list, entry(string(key), string(value)))
	}
	return show(list)
}

// tells fails, if a telling does not tell just these, twice, and by All.
func tells(t *testing.T, what string, s merge.Seq, want []api.Entry) {
	t.Helper()
	if s == nil {
		t.Fatalf("%s: nil", what)
	}
	for range 2 {
		if got := told(s); got != show(want) {
			t.Fatalf("%s: %s, not %s", what, got, show(want))
		}
	}
	if got := merge.All(s, -1); show(got) != show(want) {
		t.Fatalf("%s, by All: %s, not %s", what, show(got), show(want))
	}
}

// rises tells whether each key is above the one ahead, by the library's order.
func rises(l []api.Entry) bool {
	for i := range l {
		if i > 0 && string(l[i].Key) <= string(l[i-1].Key) {
			return false
		}
	}
	return true
}

// listed is the entries of a map, rising.
func listed(world map[string]string) []api.Entry {
	var list []api.Entry
	for _, key := range slices.Sorted(maps.Keys(world)) {
		list = append(list, entry(key, world[key]))
	}
	return list
}

// united is what Union must tell.
func united(lists ...[]api.Entry) []api.Entry {
	world := map[string]string{}
	for _, l := range slices.Backward(lists) {
		for _, e := range l {
			world[string(e.Key)] = string(e.Value)
		}
	}
	return listed(world)
}

// left is what With must tell.
func left(l []api.Entry, m []api.Msg) []api.Entry {
	world := map[string]string{}
	for _, e := range l {
		world[string(e.Key)] = string(e.Value)
	}
	for _, one := range m {
		switch one.Kind {
		case 1:
			world[string(one.Lo)] = string(one.Value)
		case 2:
			delete(world, string(one.Lo))
		case 3:
			maps.DeleteFunc(world, func(key, _ string) bool { return key >= string(one.Lo) && key < string(one.Hi) })
		}
	}
	return listed(world)
}

// has is whether a range has a key, by the library's order.
func has(r api.Range, key []byte) bool {
	return string(key) >= string(r.Lo) && (r.All || string(key) < string(r.Hi))
}

// within is what Within must tell.
func within(l []api.Entry, r api.Range) []api.Entry {
	return slices.DeleteFunc(slices.Clone(l), func(e api.Entry) bool { return !has(r, e.Key) })
}

// watched is a telling that notes what is asked of it, and writes over what it told as soon as it is asked for the next one, or left.
type watched struct {
	list    []api.Entry
	begun   int // how often it was ranged over
	asked   int // for how many entries it was asked, the end among them
	running int
	busy    *bool // that of those which one hand alone may use at a time
}

func watch(l []api.Entry) *watched { return &watched{list: l, busy: new(bool)} }

func (w *watched) seq(yield func([]byte, []byte) bool) {
	w.enter()
	w.begun++
	w.running++
	defer func() { w.running-- }()
	for _, e := range w.list {
		w.asked++
		key, value := bytes.Clone(e.Key), bytes.Clone(e.Value)
		*w.busy = false
		more := yield(key, value)
		w.enter()
		overwrite(key)
		overwrite(value)
		if !more {
			*w.busy = false
			return
		}
	}
	w.asked++
	*w.busy = false
}

func (w *watched) enter() {
	if *w.busy {
		panic("two hands at once")
	}
	*w.busy = true
}

// overwrite turns all bytes of a list and of its spare room.
func overwrite(b []byte) {
	b = b[:cap(b)]
	for i := range b {
		b[i] = ^b[i]
	}
}

// endless tells keys without an end, by rising numbers from one on; *asked is how many.
func endless(first int, step int, asked *int) merge.Seq {
	return func(yield func([]byte, []byte) bool) {
		for n := first; ; n += step {
			*asked++
			if !yield([]byte(fmt.Sprintf("%09d", n)), nil) {
				return
			}
		}
	}
}

// subsets are all lists of some of these keys, in their order.
func subsets(keys ...string) [][]string {
	all := [][]string{nil}
	for _, key := range keys {
		for _, l := range all {
			all = append(all, append(slices.Clone(l), key))
		}
	}
	return all
}

// rows are all lists of at most so many of some things, in any order, also of one several times.
func rows[T any](things []T, most int) [][]T {
	all := [][]T{nil}
	for at := 0; at < len(all); at++ {
		if len(all[at]) < most {
			for _, one := range things {
				all = append(all, append(slices.Clone(all[at]), one))
			}
		}
	}
	return all
}

// dice are numbers that look thrown and are the same in every run.
type dice uint64

func (d *dice) below(n int) int {
	*d += 0x9e3779b97f4a7c15
	x := uint64(*d)
	x = (x ^ x>>30) * 0xbf58476d1ce4e5b9
	x = (x ^ x>>27) * 0x94d049bb133111eb
	return int((x ^ x>>31) % uint64(n))
}

// key is of few bytes of few kinds, so that many keys are alike or begin alike; it may have none.
func (d *dice) key() string {
	const letters = "\x00a\x80\xff"
	var b strings.Builder
	for range d.below(5) {
		b.WriteByte(letters[d.below(len(letters))])
	}
	return b.String()
}

// rising are entries that rise, at most so many.
func (d *dice) rising(most int) []api.Entry {
	world := map[string]string{}
	for range d.below(most + 1) {
		world[d.key()] = fmt.Sprint(d.below(1000))
	}
	return listed(world)
}

// any are entries in any order, at most so many.
func (d *dice) any(most int) []api.Entry {
	var list []api.Entry
	for range d.below(most + 1) {
		list = append(list, entry(d.key(), fmt.Sprint(d.below(5))))
	}
	return list
}

// messages are so many at most, of every kind and of none, some of which say nothing.
func (d *dice) messages(most int) []api.Msg {
	var list []api.Msg
	for range d.below(most + 1) {
		kind := []api.MsgKind{1, 1, 1, 2, 2, 3, 3, 0, 4, -1}[d.below(10)]
		list = append(list, api.Msg{Stamp: uint64(d.below(9)), Kind: kind, Lo: []byte(d.key()), Hi: []byte(d.key()), Value: []byte(d.key())})
	}
	return list
}

// span is any range, perhaps an empty one.
func (d *dice) span() api.Range {
	return api.Range{Lo: []byte(d.key()), Hi: []byte(d.key()), All: d.below(4) == 0}
}
