package betree_test

import (
	"bytes"
	"fmt"
	"maps"
	"slices"
	"strings"
	"sync"
	"testing"

	"banyan/api"
	"banyan/betree"
)

// letters are trees by hand of few letters: a leaf, and a tree with messages in its root and beneath.
func letters() []wood {
	return []wood{
		twig("a", "ab", "abc", "m"),
		fork("ab m", twig("a"), twig("ab", "abc"), twig("m", "z")).with("3+abd=d 4+y=y"),
		fork("m", fork("c", twig("a", "b"), twig("c", "k")).with("3+d=d"), fork("t", twig("m"), twig("t", "z"))).with("9+l=l 9-m:n"),
	}
}

// overwrite writes into bytes and into their spare room.
func overwrite(b []byte, by byte) {
	b = b[:cap(b)]
	for i := range b {
		b[i] = by
	}
}

// P3: keys, values and ranges that are handed in, and what stands behind them, are not written into, nor kept.
func TestArgumentsAreLeft(t *testing.T) {
	for i, w := range letters() {
		x := grown(t, 512, 300, w, policies()[i], true)
		room := bytes.Repeat([]byte("cdefghkl"), 40)
		asked := slices.Clone(room)
		left := func(what string) {
			t.Helper()
			if !bytes.Equal(room, asked) {
				t.Fatalf("%s: what is handed in is written into", what)
			}
			overwrite(room, 'x')
			x.sound(what)
			tellsAll(t, what, x.b, x.now)
			copy(room, asked)
		}
		for i := range 60 {
			key, value := room[i%8:i%8+1+i%24], room[2*i:2*i+2*i]
			if err := x.b.Put(key, value); err != nil {
				t.Fatal(err)
			}
			x.now[string(key)] = string(value)
			left("Put")
		}
		x.b.Get(room[3:9])
		left("Get")
		for i := range 30 {
			key := room[i%8 : i%8+1+i]
			x.b.Delete(key)
			delete(x.now, string(key))
			left("Delete")
		}
		x.b.DeleteRange(api.Range{Lo: room[0:3], Hi: room[1:4]})
		for _, key := range x.now.keys(span("cde", "def")) {
			delete(x.now, key)
		}
		left("DeleteRange")
	}
}

// P3: the range that Scan is handed in is left alone, and what becomes of it is not asked.
func TestScanKeepsNothing(t *testing.T) {
	x := grown(t, 512, 200, letters()[2], greedy(), true)
	room := []byte("bnspare room")
	s := x.b.Scan(api.Range{Lo: room[:1], Hi: room[1:2]}, nil)
	holds := func(what string) {
		t.Helper()
		told := ""
		for key := range s {
			told += string(key)
		}
		if told != "bcdkl" {
			t.Errorf("%s: %s", what, told)
		}
	}
	holds("Scan")
	if string(room) != "bnspare room" {
		t.Fatalf("what is handed in is written into: %s", room)
	}
	overwrite(room, 'z')
	holds("what was handed in was overwritten")
}

// P3: the Picks of a policy are left alone, and not kept.
func TestPicksAreLeft(t *testing.T) {
	run := func(spoilt bool) string {
		room := []int{0, 1, 2, 1, 77}
		p := api.Policy{Kind: api.Script, Picks: room[:4]}
		handed := func() {
			if !slices.Equal(room, []int{0, 1, 2, 1, 77}) {
				t.Errorf("the Picks have become %v", room)
			}
			if spoilt {
				copy(room, []int{3, 3, 3, 3, 3})
			}
		}
		s, _ := format(t, 512, 500)
		b, err := betree.New(s, p)
		if err != api.OK {
			t.Fatalf("New: %v", err)
		}
		handed()
		for i := range 300 {
			if i == 100 {
				copy(room, []int{0, 1, 2, 1, 77})
				b = opened(t, s, p, b.Stamp())
				handed()
			}
			b.Put([]byte(fmt.Sprint(i*77%300)), make([]byte, 40))
		}
		var all strings.Builder
		for _, n := range s.Live() {
			_, payload, _ := s.Get(n)
			all.Write(payload)
		}
		return all.String()
	}
	if run(false) != run(true) {
		t.Error("Picks are kept")
	}
}

// P3: answers are new memory: a tree does not change with them, nor one with another.
func TestAnswersAreNew(t *testing.T) {
	for _, w := range letters() {
		for _, committed := range []bool{false, true} {
			x := grown(t, 512, 200, w, greedy(), committed)
			keys := x.now.keys(from(""))
			var all [][]byte
			for range 2 {
				for _, key := range keys {
					value, _, _ := x.b.Get([]byte(key))
					all = append(all, value)
				}
				for key, value := range x.b.Scan(from(""), nil) {
					all = append(all, key, value)
				}
			}
			for range 2 {
				slices.Reverse(all)
				for i, b := range all {
					kept := slices.Clone(b)
					overwrite(b, '!')
					for j, other := range all {
						if i != j && len(other) > 0 && other[0] == '!' {
							t.Fatal("answers change with others")
						}
					}
					copy(b, kept)
					overwrite(b[len(b):], '!')
				}
			}
			tellsAll(t, "answers were overwritten", x.b, x.now)
			for key, value := range x.b.Scan(from(""), nil) {
				overwrite(key, '!')
				overwrite(value, '!')
			}
			tellsAll(t, "what a loop was told was overwritten", x.b, x.now)
			x.commit()
			tellsAll(t, "committed", x.b, x.now)
		}
	}
}

// P3: an answer stays as it was, whatever is done to the tree.
func TestAnswersStay(t *testing.T) {
	for _, w := range letters() {
		x := grown(t, 512, 300, w, greedy(), false)
		was := maps.Clone(x.now)
		got := map[string][]byte{}
		for key := range was {
			got[key], _, _ = x.b.Get([]byte(key))
		}
		var told []api.Entry
		for key, value := range x.b.Scan(from(""), nil) {
			told = append(told, api.Entry{Key: key, Value: value})
		}
		for _, key := range []string{"a", "k", "m", "q", "y"} {
			x.put(key, strings.Repeat("w", 100))
		}
		x.commit()
		x.flush()
		x.cut(from(""))
		x.commit()
		for key, value := range got {
			if string(value) != was[key] {
				t.Errorf("the value of %s has become %q", key, value)
			}
		}
		for i, key := range was.keys(from("")) {
			if string(told[i].Key) != key || string(told[i].Value) != was[key] {
				t.Errorf("%s has become %q", key, told[i])
			}
		}
	}
}

// script does thrown calls of a tree, and writes down what it answers.
func script(b *betree.Tree, w world) string {
	var said strings.Builder
	r := dice(7)
	keys := w.keys(from(""))
	for i := range 400 {
		key := one(&r, keys)
		if r.below(3) == 0 {
			key = r.key(512)
		}
		switch r.below(7) {
		case 0, 1:
			fmt.Fprintln(&said, b.Put([]byte(key), []byte(fmt.Sprint(i))))
		case 2:
			fmt.Fprintln(&said, b.Delete([]byte(key)))
		case 3:
			fmt.Fprintln(&said, b.DeleteRange(span(key, key+"\x00\xff"[:32-max(30, len(key))])))
		case 4:
			l, err := told(b, r.span(512))
			fmt.Fprintln(&said, l, err)
		default:
			value, there, err := b.Get([]byte(key))
			fmt.Fprintln(&said, value, there, err)
		}
		fmt.Fprintln(&said, b.Stamp())
	}
	l, err := told(b, from(""))
	fmt.Fprintln(&said, l, err)
	return said.String()
}

// sixty is a map of thrown keys and values.
func sixty() world {
	w := world{}
	var r dice
	for range 60 {
		w[r.key(512)] = r.value(512)
	}
	return w
}

// P4: trees have nothing to do with one another: many hands, each on its own, go as one goes alone.
func TestManyHands(t *testing.T) {
	w := sixty()
	said := make([]string, 8)
	var hands sync.WaitGroup
	for hand := range said {
		x := begun(t, 512, 500, policies()[0])
		for _, key := range w.keys(from("")) {
			x.put(key, w[key])
		}
		hands.Go(func() { said[hand] = script(x.b, w) })
	}
	hands.Wait()
	for _, s := range said {
		if s != said[0] || s == "" {
			t.Error("one of many hands is told otherwise")
		}
	}
}

// P17.1: trees of one map answer alike, by whichever policy they go, and however the map came in.
func TestAlike(t *testing.T) {
	w := sixty()
	keys := w.keys(from(""))
	roads := map[string]func(*trial){
		"rising": func(x *trial) {
			for _, key := range keys {
				x.put(key, w[key])
			}
		},
		"falling, flushed": func(x *trial) {
			for _, key := range slices.Backward(keys) {
				x.put(key, w[key])
			}
			x.flush()
		},
		"around": func(x *trial) {
			r := dice(3)
			for range 400 {
				x.put(r.key(512), r.value(512))
			}
			x.cut(span("", keys[0]))
			for i, key := range keys {
				if i+1 < len(keys) {
					x.cut(span(key, keys[i+1]))
				}
				x.put(key, w[key])
			}
			last := keys[len(keys)-1]
			x.cut(from(last))
			x.put(last, w[last])
		},
	}
	said := ""
	for road, goes := range roads {
		for i, p := range policies() {
			x := begun(t, 512, 800, p)
			goes(x)
			l := x.sound(road)
			// Stamps tell how many calls there were.
			x.b = opened(t, x.s, p, 1<<30)
			got := script(x.b, w)
			if said == "" {
				said = got
			}
			if got != said {
				t.Errorf("%s, by the policy %d, High %d: the tree answers otherwise", road, i, l.high)
			}
		}
	}
}

// P4: the same calls, on stores that are alike, come to the same pages.
func TestSamePages(t *testing.T) {
	for _, p := range policies() {
		build := func() (*trial, []int) {
			x := begun(t, 512, 500, p)
			r := dice(5)
			for range 400 {
				x.thrown(&r, 60)
			}
			return x, x.s.Live()
		}
		x, one := build()
		y, other := build()
		if !slices.Equal(one, other) || x.s.Root() != y.s.Root() {
			t.Errorf("the pages are %v, and %v", one, other)
		}
		for _, n := range one {
			_, a, _ := x.s.Get(n)
			_, b, _ := y.s.Get(n)
			if !bytes.Equal(a, b) {
				t.Errorf("the page %d is otherwise", n)
			}
		}
	}
}

// A tree keeps nothing but its store, its chooser and its stamp: it may be opened anew at any moment.
func TestKeepsNothing(t *testing.T) {
	x := begun(t, 512, 500, greedy())
	r := dice(11)
	for i := range 300 {
		x.b = opened(t, x.s, one(&r, policies()), x.stamp)
		x.thrown(&r, 60)
		if i%20 == 0 {
			x.sound("opened each time")
			tells(t, "opened each time", x.b, x.now, from(""))
		}
	}
	x.sound("opened each time")
}
