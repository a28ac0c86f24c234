package btree_test

import (
	"bytes"
	"slices"
	"strings"
	"sync"
	"testing"

	"banyan/api"
	"banyan/btree"
)

// spoil writes into bytes and into their spare room.
func spoil(b []byte, by byte) {
	b = b[:cap(b)]
	for i := range b {
		b[i] = by
	}
}

// P3: keys, values and ranges that are handed in, and what stands behind them, are not written into, nor kept.
func TestArgumentsAreLeft(t *testing.T) {
	for _, w := range []wood{twig("m"), fork("c m", twig("a", "b"), twig("c", "k"), twig("m", "z"))} {
		x := grown(t, 512, 200, w, true)
		room := bytes.Repeat([]byte("cdefghkl"), 40)
		asked := slices.Clone(room)
		left := func(what string) {
			t.Helper()
			if !bytes.Equal(room, asked) {
				t.Fatalf("%s: what is handed in is written into", what)
			}
			spoil(room, 'x')
			x.sound(what)
			tellsAll(t, what, x.b, x.now)
			copy(room, asked)
		}
		for i := range 40 {
			key, value := room[i:i+1+i%32], room[2*i:2*i+3*i]
			if err := x.b.Put(key, value); err != nil {
				t.Fatal(err)
			}
			x.now[string(key)] = string(value)
			left("Put")
		}
		x.b.Get(room[3:9])
		left("Get")
		x.b.Delete(room[1:9])
		delete(x.now, string(room[1:9]))
		left("Delete")
		x.b.DeleteRange(api.Range{Lo: room[0:3], Hi: room[1:4]})
		for _, key := range x.now.keys(span("cde", "def")) {
			delete(x.now, key)
		}
		left("DeleteRange")
	}
}

// P3: the range that Scan is handed in is left alone, and what becomes of it is not asked.
func TestScanKeepsNothing(t *testing.T) {
	x := grown(t, 512, 200, fork("c m", twig("a", "b"), twig("c", "k"), twig("m", "z")), true)
	room := []byte("bnspare room")
	s := x.b.Scan(api.Range{Lo: room[:1], Hi: room[1:2]}, nil)
	holds := func(what string) {
		t.Helper()
		told := ""
		for key := range s {
			told += string(key)
		}
		if told != "bckm" {
			t.Errorf("%s: %s", what, told)
		}
	}
	holds("Scan")
	if string(room) != "bnspare room" {
		t.Fatalf("what is handed in is written into: %s", room)
	}
	spoil(room, 'z')
	holds("what was handed in was spoilt")
}

// P3: answers are new memory: a tree does not change with them, nor one with another.
func TestAnswersAreNew(t *testing.T) {
	for _, w := range []wood{twig("a", "ab", "abc", "m"), fork("ab m", twig("a"), twig("ab", "abc"), twig("m", "z"))} {
		for _, committed := range []bool{false, true} {
			x := grown(t, 512, 200, w, committed)
			keys := x.now.keys(from(""))
			var all [][]byte
			for range 2 {
				for _, key := range keys {
					value, _, _ := x.b.Get([]byte(key))
					all = append(all, value)
				}
				for key, value := range x.b.Scan(from(""), nil) {
					all = append(all, key, value)
				}
			}
			for range 2 {
				slices.Reverse(all)
				for i, b := range all {
					kept := slices.Clone(b)
					spoil(b, '!')
					for j, other := range all {
						if i != j && len(other) > 0 && other[0] == '!' {
							t.Fatal("answers change with others")
						}
					}
					copy(b, kept)
					spoil(b[len(b):], '!')
				}
			}
			tellsAll(t, "answers were spoilt", x.b, x.now)
			for key, value := range x.b.Scan(from(""), nil) {
				spoil(key, '!')
				spoil(value, '!')
			}
			tellsAll(t, "what a loop was told was spoilt", x.b, x.now)
			x.commit()
			tellsAll(t, "committed", x.b, x.now)
		}
	}
}

// P3: an answer stays as it was, whatever is done to the tree.
func TestAnswersStay(t *testing.T) {
	x := grown(t, 512, 200, fork("c m", twig("a", "b"), twig("c", "k"), twig("m", "z")), false)
	value, _, _ := x.b.Get([]byte("k"))
	var told []api.Entry
	for key, value := range x.b.Scan(from(""), nil) {
		told = append(told, api.Entry{Key: key, Value: value})
	}
	for _, key := range []string{"a", "k", "m", "q"} {
		x.put(key, strings.Repeat("w", 100))
	}
	x.commit()
	x.cut(from(""))
	x.commit()
	if string(value) != "k" {
		t.Errorf("a value has become %q", value)
	}
	for i, key := range []string{"a", "b", "c", "k", "m", "z"} {
		if string(told[i].Key) != key || string(told[i].Value) != key {
			t.Errorf("%s has become %q", key, told[i])
		}
	}
}

// P4: trees have nothing to do with one another: many hands, each on its own, go as one goes alone.
func TestManyHands(t *testing.T) {
	w := world{}
	var r dice
	for range 60 {
		w[r.key(512)] = r.value(512)
	}
	said := make([]string, 8)
	var hands sync.WaitGroup
	for hand := range said {
		x := begun(t, 512, 500)
		for key, value := range w {
			x.put(key, value)
		}
		hands.Go(func() { said[hand] = script(x.b, w) })
	}
	hands.Wait()
	for _, s := range said {
		if s != said[0] || s == "" {
			t.Error("one of many hands is told otherwise")
		}
	}
}

// P4: the same calls, on stores that are alike, come to the same pages.
func TestSamePages(t *testing.T) {
	build := func() (*trial, []int) {
		x := begun(t, 512, 500)
		r := dice(5)
		for range 500 {
			x.thrown(&r, 60)
		}
		return x, x.s.Live()
	}
	x, one := build()
	y, other := build()
	if !slices.Equal(one, other) || x.s.Root() != y.s.Root() {
		t.Errorf("the pages are %v, and %v", one, other)
	}
	for _, n := range one {
		_, a, _ := x.s.Get(n)
		_, b, _ := y.s.Get(n)
		if !bytes.Equal(a, b) {
			t.Errorf("the page %d is otherwise", n)
		}
	}
}

// Trees may be made and asked one beside the other; a tree keeps nothing but its store.
func TestKeepsNothing(t *testing.T) {
	x := begun(t, 512, 200)
	var trees []*btree.Tree
	for i := range 30 {
		trees = append(trees, opened(t, x.s))
		b := one(new(dice), trees)
		key := string([]byte{byte('a' + i)})
		if err := b.Put([]byte(key), bytes.Repeat([]byte{'v'}, i)); err != nil {
			t.Fatal(err)
		}
		x.now[key] = strings.Repeat("v", i)
		for _, b := range trees {
			gets(t, "one of many", b, x.now, key)
		}
	}
	for _, b := range trees {
		sound(t, "one of many", b, x.s, x.now)
	}
}
