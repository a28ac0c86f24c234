package btree_test

import (
	"errors"
	"fmt"
	"slices"
	"strings"
	"testing"

	"banyan/api"
	"banyan/btree"
	"banyan/dev"
	"banyan/leaf"
	"banyan/pages"
)

// live holds the pages that there are against those that are asked.
func live(t *testing.T, what string, s *pages.Store, asked ...int) {
	t.Helper()
	slices.Sort(asked)
	if got := s.Live(); !slices.Equal(got, asked) {
		t.Errorf("%s: the pages are %v, want %v", what, got, asked)
	}
}

// sicken makes the device refuse a Commit.
func sicken(t *testing.T, d *dev.Dev, s *pages.Store) {
	t.Helper()
	if err := d.Arm(1, api.Fail, false); err != api.OK {
		t.Fatalf("Arm: %v", err)
	}
	if err := s.Commit(); err != api.ErrDevFail {
		t.Fatalf("Commit: %v", err)
	}
}

// past is what was committed last, as a store that nobody can change.
func past(t *testing.T, s *pages.Store) *pages.Store {
	t.Helper()
	old, err := s.At("")
	if err != api.OK {
		t.Fatalf("At: %v", err)
	}
	return old
}

// beside is the store, seen with another root.
func beside(t *testing.T, s *pages.Store, root int) *pages.Store {
	t.Helper()
	b, err := s.Beside(root)
	if err != api.OK {
		t.Fatalf("Beside: %v", err)
	}
	return b
}

// fill makes pages that are no tree's, until so many are left; their numbers.
func fill(t *testing.T, s *pages.Store, left int) []int {
	t.Helper()
	var numbers []int
	for s.Left() > left {
		n, err := s.New(api.Other, nil)
		if err != api.OK {
			t.Fatalf("a page of others: %v", err)
		}
		numbers = append(numbers, n)
	}
	return numbers
}

// The chapter's examples.
func TestExamples(t *testing.T) {
	x := begun(t, 512, 200)
	x.sound("New")
	gets(t, "New", x.b, world{}, "a")
	x.put("a", "1")
	gets(t, "Put", x.b, world{"a": "1"}, "a")
	if b, err := btree.New(x.s); b != nil || err != api.ErrBulkThere {
		t.Errorf("New again: %v, %v", b, err)
	}
	want(t, "Put of the empty key", x.b.Put(nil, []byte("v")), api.ErrLeafKey)
	want(t, "Put of 129 bytes", x.b.Put([]byte("a"), make([]byte, 129)), api.ErrLeafValue)
	x.sound("refused")

	x = begun(t, 512, 200)
	for _, key := range []string{"a", "b", "c", "d"} {
		x.put(key, strings.Repeat("v", 120))
	}
	if l := x.sound("four long values"); l.high != 1 {
		t.Errorf("High: %d, want 1", l.high)
	}
	if n, err := x.b.DeleteRange(span("b", "d")); n != 2 || err != nil {
		t.Errorf("DeleteRange: %d, %v", n, err)
	}
	delete(x.now, "b")
	delete(x.now, "c")
	x.sound("b up to d")
	tells(t, "b up to d", x.b, x.now, from(""))
	if n, err := x.b.DeleteRange(from("")); n != 2 || err != nil {
		t.Errorf("DeleteRange of all: %d, %v", n, err)
	}
	x.now = world{}
	if l := x.sound("all"); l.high != 0 || l.leaves != 1 {
		t.Errorf("DeleteRange of all: High %d, %d leaves", l.high, l.leaves)
	}
	if was, err := x.b.Delete([]byte("x")); was || err != nil {
		t.Errorf("Delete: %v, %v", was, err)
	}
	want(t, "Drop", x.b.Drop(), nil)
	if x.s.Root() != 0 {
		t.Errorf("Drop: the root is %d", x.s.Root())
	}
	live(t, "Drop", x.s)
	_, _, err := x.b.Get([]byte("a"))
	want(t, "Get behind Drop", err, api.ErrTreeKind)
	if b, err := btree.New(x.s); b == nil || err != api.OK {
		t.Errorf("New behind Drop: %v, %v", b, err)
	}
}

func TestNew(t *testing.T) {
	for _, size := range sizes {
		s, _ := format(t, size, 64)
		others := fill(t, s, 20)
		b, err := btree.New(s)
		if b == nil || err != api.OK {
			t.Fatalf("New: %v, %v", b, err)
		}
		kind, payload, err := s.Get(s.Root())
		if kind != api.Leaf || string(payload) != "\x00\x00" || err != api.OK {
			t.Errorf("the root is %v, %x, %v", kind, payload, err)
		}
		sound(t, "New", b, s, world{}, others...)
	}
}

// What New refuses, and that nothing is changed then.
func TestNewRefused(t *testing.T) {
	refused := func(what string, s *pages.Store, asked api.Errno) {
		t.Helper()
		root, pages := s.Root(), s.Live()
		b, err := btree.New(s)
		if b != nil || err != asked {
			t.Errorf("%s: %v, %v, want %v", what, b, err, asked)
		}
		if s.Root() != root {
			t.Errorf("%s: the root is %d, was %d", what, s.Root(), root)
		}
		live(t, what, s, pages...)
	}
	if b, err := btree.New(nil); b != nil || err != api.ErrArg {
		t.Errorf("nil: %v, %v", b, err)
	}
	for _, kind := range []api.PageKind{api.Leaf, api.Branch, api.Node, api.Other} {
		s, d := format(t, 512, 64)
		n, _ := s.New(kind, []byte("any"))
		s.SetRoot(n)
		refused("a root", s, api.ErrBulkThere)
		s.Commit()
		refused("a root in the past", past(t, s), api.ErrBulkThere)
		s.Set(n, []byte("other"))
		sicken(t, d, s)
		refused("a root of a sick one", s, api.ErrBulkThere)
	}
	s, d := format(t, 512, 64)
	refused("the past", past(t, s), api.ErrPagesSnap)
	fill(t, s, 0)
	refused("a full one", s, api.ErrFull)
	refused("a full one, seen beside itself", beside(t, s, 0), api.ErrFull)
	sicken(t, d, s)
	refused("a sick one", s, api.ErrPagesSick)
}

func TestOpen(t *testing.T) {
	refused := func(what string, s *pages.Store, asked api.Errno) {
		t.Helper()
		if b, err := btree.Open(s); b != nil || err != asked {
			t.Errorf("%s: %v, %v, want %v", what, b, err, asked)
		}
	}
	refused("nil", nil, api.ErrArg)
	s, _ := format(t, 512, 64)
	refused("no root", s, api.ErrTreeKind)
	refused("no root in the past", past(t, s), api.ErrTreeKind)
	for _, kind := range []api.PageKind{api.Node, api.Other} {
		n, _ := s.New(kind, []byte("\x00\x00"))
		s.SetRoot(n)
		refused("a root of another kind", s, api.ErrTreeKind)
	}
	for _, w := range []wood{twig("a"), fork("b", twig("a"), twig("b"))} {
		x := grown(t, 512, 64, w, true)
		sound(t, "Open", opened(t, x.s), x.s, x.now)
		sound(t, "Open of the past", opened(t, past(t, x.s)), past(t, x.s), x.now)
		root := x.s.Root()
		for _, at := range []int{0, 40, 100, 511} {
			x.d.Flip(root, at, 1)
			_, _, why := x.s.Get(root)
			if why == api.OK {
				t.Fatal("a turned bit is not told")
			}
			refused("a turned root", x.s, why)
			x.d.Flip(root, at, 1)
		}
		x.d.Arm(1, api.Stop, false)
		x.d.Barrier()
		refused("the power is off", x.s, api.ErrDevOff)
	}
}

// Open asks no more of the root than of which kind it is.
func TestOpenOfAnyBytes(t *testing.T) {
	for _, kind := range []api.PageKind{api.Leaf, api.Branch} {
		s, _ := format(t, 512, 64)
		n := planted(t, s, other(kind, "no such page"))[0]
		b := opened(t, s)
		_, err := b.High()
		if !lost(err, n, map[api.PageKind]api.Errno{api.Leaf: api.ErrLeafForm, api.Branch: api.ErrBranchForm}[kind]) {
			t.Errorf("High: %v", err)
		}
	}
}

// calls are all that a tree can be asked for a key, or of all, by what they are; each tells its error, and whether its other answers are zero.
func calls(b *btree.Tree, key []byte, value []byte) map[string]func() (error, bool) {
	return map[string]func() (error, bool){
		"Get":    func() (error, bool) { v, is, err := b.Get(key); return err, v == nil && !is },
		"Put":    func() (error, bool) { return b.Put(key, value), true },
		"Delete": func() (error, bool) { was, err := b.Delete(key); return err, !was },
		"DeleteRange": func() (error, bool) {
			n, err := b.DeleteRange(api.Range{Lo: key, All: true})
			return err, n == 0
		},
		"DeleteRange of none": func() (error, bool) { n, err := b.DeleteRange(api.Range{Lo: key}); return err, n == 0 },
		"Scan": func() (error, bool) {
			wrong := error(api.ErrArg)
			n := 0
			for range b.Scan(api.Range{Lo: key, All: true}, &wrong) {
				n++
			}
			return wrong, n == 0
		},
		"Scan of none": func() (error, bool) {
			wrong := error(api.ErrArg)
			n := 0
			for range b.Scan(api.Range{Lo: key}, &wrong) {
				n++
			}
			return wrong, n == 0
		},
		"High": func() (error, bool) { n, err := b.High(); return err, n == 0 },
		"Drop": func() (error, bool) { return b.Drop(), true },
	}
}

// answers holds what all calls answer of a key and a value against the errors that are asked; of those that have none in the table nothing is asked, nor are they called.
func answers(t *testing.T, what string, b *btree.Tree, key []byte, value []byte, asked map[string]error) {
	t.Helper()
	for name, call := range calls(b, key, value) {
		want, is := asked[name]
		if !is {
			continue
		}
		err, zero := call()
		if err != want || err != nil && !zero {
			t.Errorf("%s: %s: %v (else nothing: %v), want %v", what, name, err, zero, want)
		}
	}
}

// Where there is no root, all calls answer that, whatever else is wrong.
func TestNoRoot(t *testing.T) {
	all := map[string]error{}
	for name := range calls(nil, nil, nil) {
		all[name] = api.ErrTreeKind
	}
	for _, key := range [][]byte{nil, []byte("a"), make([]byte, 33)} {
		for _, value := range [][]byte{nil, make([]byte, 129)} {
			s, d := format(t, 512, 64)
			b, err := btree.New(s)
			if err != api.OK {
				t.Fatal(err)
			}
			want(t, "Drop", b.Drop(), nil)
			answers(t, "no root", b, key, value, all)
			live(t, "no root", s)
			sicken(t, d, s)
			answers(t, "no root, and sick", b, key, value, all)
		}
	}
}

// Keys and values at their limits, and one beyond, at all sizes.
func TestKeysAndValues(t *testing.T) {
	for _, size := range sizes {
		x := begun(t, size, 200)
		long, longest := strings.Repeat("k", size/16), strings.Repeat("v", size/4)
		for _, key := range []string{"k", "\x00", "\xff", long} {
			for _, value := range []string{"", "v", longest} {
				x.put(key, value)
				gets(t, "Put", x.b, x.now, key)
			}
		}
		x.sound("the limits")
		for _, key := range []string{"", long + "k", strings.Repeat("k", 3*size)} {
			refused := map[string]error{"Get": api.ErrLeafKey, "Put": api.ErrLeafKey, "Delete": api.ErrLeafKey}
			if key != "" {
				refused["DeleteRange"], refused["DeleteRange of none"] = api.ErrLeafKey, api.ErrLeafKey
				refused["Scan"], refused["Scan of none"] = nil, nil
			}
			answers(t, "keys that may not be", x.b, []byte(key), []byte("v"), refused)
			answers(t, "keys and values that may not be", x.b, []byte(key), []byte(longest+"v"), refused)
		}
		answers(t, "values that may not be", x.b, []byte(long), []byte(longest+"v"), map[string]error{"Put": api.ErrLeafValue})
		answers(t, "values that may not be", x.b, []byte("new"), make([]byte, 5*size), map[string]error{"Put": api.ErrLeafValue})
		x.sound("refused")
		tellsAll(t, "refused", x.b, x.now)
		for key := range x.now {
			x.del(key)
			gets(t, "Delete", x.b, x.now, key)
		}
		x.sound("deleted")
	}
}

// A DeleteRange's ends, at their limits and one beyond: Hi is asked only where the range is not of All.
func TestDeleteRangeEnds(t *testing.T) {
	for _, size := range sizes {
		x := begun(t, size, 200)
		most := size / 16
		lasts := strings.Repeat("\xff", most)
		fresh := func() {
			for _, key := range []string{"a", "b", lasts} {
				x.put(key, "v")
			}
		}
		fresh()
		ends := []string{"", "a", lasts, lasts + "\x00", strings.Repeat("b", most+1), strings.Repeat("\xff", 4*size)}
		for _, lo := range ends {
			for _, hi := range ends {
				for _, all := range []bool{false, true} {
					r := api.Range{Lo: []byte(lo), Hi: []byte(hi), All: all}
					if len(lo) <= most && (all || len(hi) <= most) {
						x.cut(r)
						x.sound("DeleteRange")
						fresh()
						continue
					}
					n, err := x.b.DeleteRange(r)
					if n != 0 || err != error(api.ErrLeafKey) {
						t.Errorf("DeleteRange of %v: %d, %v", r, n, err)
					}
				}
			}
		}
		tellsAll(t, "refused", x.b, x.now)
	}
}

// Ranges that have no keys: nothing is done, not even where nothing could be.
func TestEmptyRanges(t *testing.T) {
	x := grown(t, 512, 64, fork("b d", twig("a"), twig("b", "c"), twig("d")), true)
	empty := []api.Range{{}, span("a", "a"), span("c", "b"), span("z", ""), {Hi: []byte{}}}
	none := func(what string, b *btree.Tree) {
		t.Helper()
		for _, r := range empty {
			if n, err := b.DeleteRange(r); n != 0 || err != nil {
				t.Errorf("%s: DeleteRange of %v: %d, %v", what, r, n, err)
			}
			tells(t, what, b, x.now, r)
		}
	}
	pages := x.s.Live()
	_, w := x.d.Count()
	none("a tree", x.b)
	none("the past", opened(t, past(t, x.s)))
	if _, now := x.d.Count(); now != w {
		t.Error("something is written")
	}
	live(t, "a tree", x.s, pages...)
	x.put("e", "new")
	sicken(t, x.d, x.s)
	none("a sick one", x.b)
	// A page that cannot be read is not asked for.
	x.reopen()
	x.d.Flip(x.s.Root(), 50, 4)
	if n, err := x.b.DeleteRange(span("b", "b")); n != 0 || err != nil {
		t.Errorf("a lost root: %d, %v", n, err)
	}
}

// Scan takes ranges with ends of any bytes.
func TestScanRanges(t *testing.T) {
	for _, w := range []wood{
		twig("a", "b", "ba", "c"),
		fork("b d", twig("a", "ab"), twig("b", "ba", "c"), twig("d", "\xff\xff")),
		fork("m", fork("c f", twig("a"), twig("c", "d"), twig("f")), fork("p t", twig("m", "mm"), twig("p"), twig("t", "z"))),
	} {
		x := grown(t, 512, 64, w, true)
		ends := append(w.separators(), "", "\x00", "0", "zz", strings.Repeat("c", 500), strings.Repeat("\xff", 700))
		for key := range x.now {
			ends = append(ends, key, key+"\x00")
		}
		for _, lo := range ends {
			for _, hi := range ends {
				tells(t, "Scan", x.b, x.now, span(lo, hi))
				tells(t, "Scan", x.b, x.now, api.Range{Lo: []byte(lo), Hi: []byte(hi), All: true})
			}
		}
		tells(t, "Scan", x.b, x.now, api.Range{All: true})
	}
}

// P6: what Scan tells is what there is when it is ranged over, each time.
func TestScanTellsWhatThereIs(t *testing.T) {
	x := grown(t, 512, 64, fork("c", twig("a", "b"), twig("c", "d")), true)
	r := span("b", "d")
	wrong := error(api.ErrArg)
	s := x.b.Scan(r, &wrong)
	if wrong != error(api.ErrArg) {
		t.Error("Scan says something ahead of the loop")
	}
	holds := func(what string) {
		t.Helper()
		told := world{}
		for key, value := range s {
			told[string(key)] = string(value)
		}
		if told.show(from("")) != x.now.show(r) || wrong != nil {
			t.Errorf("%s: %s, %v, want %s", what, told.show(from("")), wrong, x.now.show(r))
		}
	}
	holds("Scan")
	x.put("bb", "1")
	x.del("c")
	holds("changed")
	x.commit()
	holds("committed")
	x.cut(from(""))
	holds("nothing")
	x.abort()
	holds("taken back")
	want(t, "Drop", x.b.Drop(), nil)
	for range s {
		t.Error("no tree tells something")
	}
	want(t, "no tree", wrong, api.ErrTreeKind)
	btree.New(x.s)
	x.now = world{}
	holds("another one")
	x.put("bc", "2")
	holds("something of another one")
}

// P6: a loop may be left early, ranged over again, also within its own loop; nobody need be told of errors.
func TestScanLoops(t *testing.T) {
	w := fork("c e g", twig("a", "b"), twig("c", "d"), twig("e"), twig("g", "h"))
	x := grown(t, 512, 64, w, true)
	keys := x.now.keys(from(""))
	wrong := error(nil)
	for _, s := range []func(func([]byte, []byte) bool){x.b.Scan(from(""), nil), x.b.Scan(from(""), &wrong)} {
		for most := range len(keys) + 1 {
			var told []string
			for key := range s {
				if len(told) == most {
					break
				}
				told = append(told, string(key))
			}
			if !slices.Equal(told, keys[:most]) || wrong != nil {
				t.Errorf("the first %d: %q, %v", most, told, wrong)
			}
		}
		var pairs, asked []string
		for one := range s {
			for other := range s {
				pairs = append(pairs, string(one)+string(other))
			}
		}
		for _, one := range keys {
			for _, other := range keys {
				asked = append(asked, one+other)
			}
		}
		if !slices.Equal(pairs, asked) {
			t.Errorf("within its own loop: %q", pairs)
		}
	}
	root := x.s.Root()
	x.d.Flip(root, 50, 1)
	for range x.b.Scan(from(""), nil) {
		t.Error("a lost tree tells something")
	}
}

// What a loop gives up by a panic is its own.
func TestScanLoopPanics(t *testing.T) {
	x := grown(t, 512, 64, fork("c", twig("a", "b"), twig("c", "d")), true)
	for _, why := range []any{"why", api.ErrFull, errors.New("why"), &api.Lost{Page: 2, Err: api.ErrTreeShape}} {
		wrong := error(api.ErrArg)
		func() {
			defer func() {
				if got := recover(); got != why {
					t.Errorf("recovered %v, want %v", got, why)
				}
			}()
			for key := range x.b.Scan(from(""), &wrong) {
				if string(key) == "c" {
					panic(why)
				}
			}
		}()
		want(t, "wrong", wrong, nil)
	}
	tellsAll(t, "a loop has panicked", x.b, x.now)
}

// On a store that nothing can change all changes answer that, whether there is anything to be changed or not, ahead of what is lost.
func TestUnchangeable(t *testing.T) {
	changes := func(why error) map[string]error {
		return map[string]error{"Put": why, "Delete": why, "DeleteRange": why, "Drop": why, "DeleteRange of none": nil}
	}
	refused := func(what string, x *trial, s *pages.Store, w world, why api.Errno, isLost bool) {
		t.Helper()
		b, pages, root := opened(t, s), s.Live(), s.Root()
		if isLost {
			turn(t, x.d, root)
		}
		for _, key := range []string{"a", "b", "x", strings.Repeat("z", 32)} {
			answers(t, what, b, []byte(key), []byte("new"), changes(why))
			answers(t, what, b, []byte(key), []byte(w[key]), changes(why))
			answers(t, what+", too long a value", b, []byte(key), make([]byte, 129), map[string]error{"Put": api.ErrLeafValue})
		}
		answers(t, what+", keys that may not be", b, nil, nil, map[string]error{"Put": api.ErrLeafKey, "Delete": api.ErrLeafKey})
		answers(t, what+", keys that may not be", b, make([]byte, 33), nil, map[string]error{"Put": api.ErrLeafKey, "Delete": api.ErrLeafKey, "DeleteRange": api.ErrLeafKey})
		if isLost {
			turn(t, x.d, root)
		}
		if s.Root() != root {
			t.Errorf("%s: the root is %d, was %d", what, s.Root(), root)
		}
		live(t, what, s, pages...)
		tellsAll(t, what, b, w)
		sound(t, what, b, s, w)
	}
	for _, w := range []wood{twig(), twig("a", "b"), fork("b", twig("a"), twig("b", "c"))} {
		for _, isLost := range []bool{false, true} {
			x := grown(t, 512, 64, w, true)
			refused("the past", x, past(t, x.s), x.now, api.ErrPagesSnap, isLost)
			x.s.Snap("s")
			x.commit()
			x.put("q", "another")
			x.commit()
			old, err := x.s.At("s")
			if err != api.OK {
				t.Fatalf("At: %v", err)
			}
			refused("a snapshot", x, old, w.world(), api.ErrPagesSnap, isLost)
			refused("a snapshot, seen beside itself", x, beside(t, old, old.Root()), w.world(), api.ErrPagesSnap, isLost)
			sicken(t, x.d, x.s)
			refused("a sick one", x, x.s, x.now, api.ErrPagesSick, isLost)
			x = grown(t, 512, 64, w, true)
			x.put("q", "another")
			sicken(t, x.d, x.s)
			refused("a sick one, changed", x, x.s, x.now, api.ErrPagesSick, false)
		}
	}
}

// turn turns a bit of a page, so that it cannot be read; or turns it back.
func turn(t *testing.T, d *dev.Dev, n int) {
	t.Helper()
	if err := d.Flip(n, 40, 4); err != api.OK {
		t.Fatalf("Flip: %v", err)
	}
}

// Several trees on one store are one tree; what it tells is what the store's pages are.
func TestOneTree(t *testing.T) {
	x := begun(t, 512, 200)
	other := opened(t, x.s)
	for i := range 40 {
		x.put(fmt.Sprint("k", i), strings.Repeat("v", i))
		gets(t, "another one", other, x.now, fmt.Sprint("k", i))
	}
	x.commit()
	tellsAll(t, "committed", other, x.now)
	if n, err := other.DeleteRange(span("k2", "k3")); n != 11 || err != nil {
		t.Errorf("DeleteRange: %d, %v", n, err)
	}
	if tells := x.now.keys(span("k2", "k3")); len(tells) != 11 {
		t.Fatal(tells)
	}
	for _, key := range x.now.keys(span("k2", "k3")) {
		delete(x.now, key)
	}
	x.sound("the other one has changed it")
	tellsAll(t, "the other one has changed it", x.b, x.now)
	x.abort()
	x.sound("taken back")
	tellsAll(t, "taken back", other, x.now)
	want(t, "Drop", other.Drop(), nil)
	_, err := x.b.High()
	want(t, "dropped by the other one", err, api.ErrTreeKind)
	x.abort()
	tellsAll(t, "taken back", x.b, x.now)
}

// Two trees in one store, the one seen beside the other: what is done with one is not seen in the other.
func TestBeside(t *testing.T) {
	x := begun(t, 512, 400)
	s := beside(t, x.s, 0)
	_, err := btree.Open(s)
	want(t, "Open beside", err, api.ErrTreeKind)
	b, err := btree.New(s)
	if b == nil || err != api.OK {
		t.Fatalf("New beside: %v, %v", b, err)
	}
	y := &trial{t: t, d: x.d, s: s, b: b, now: world{}}
	var r dice
	both := func(what string) {
		t.Helper()
		l, m := look(t, what, x.s), look(t, what, s)
		sound(t, what, x.b, x.s, x.now, m.pages...)
		sound(t, what, b, s, y.now, l.pages...)
	}
	for i := range 600 {
		z := []*trial{x, y}[r.below(2)]
		switch r.below(12) {
		case 0:
			z.cut(r.span(512))
		case 1, 2, 3:
			z.del(r.key(512))
		case 4:
			if err := x.s.Commit(); err != api.OK {
				t.Fatal(err)
			}
		default:
			z.put(r.key(512), r.value(512))
		}
		if i%20 == 0 {
			both("two trees")
		}
	}
	tellsAll(t, "the one", x.b, x.now)
	tellsAll(t, "the other one", b, y.now)
	want(t, "Drop", b.Drop(), nil)
	if s.Root() != 0 {
		t.Errorf("Drop beside: the root is %d", s.Root())
	}
	x.sound("the other one is dropped")
}

// A tree leaves pages that are not its own alone.
func TestOtherPages(t *testing.T) {
	x := begun(t, 512, 400)
	var others []int
	for i := range 20 {
		n, err := x.s.New([]api.PageKind{api.Leaf, api.Branch, api.Node, api.Other}[i%4], []byte(fmt.Sprint("page ", i)))
		if err != api.OK {
			t.Fatal(err)
		}
		others = append(others, n)
	}
	x.commit()
	var r dice
	for range 300 {
		x.put(r.key(512), r.value(512))
		x.del(r.key(512))
	}
	x.cut(r.span(512))
	sound(t, "other pages", x.b, x.s, x.now, others...)
	want(t, "Drop", x.b.Drop(), nil)
	live(t, "Drop", x.s, others...)
	for i, n := range others {
		if _, payload, err := x.s.Get(n); string(payload) != fmt.Sprint("page ", i) || err != api.OK {
			t.Errorf("the page %d is %q, %v", n, payload, err)
		}
	}
}

// High is how far the leaves are; Drop frees all pages, also those of high trees.
func TestHighAndDrop(t *testing.T) {
	f := &forest{size: 512, dice: new(dice)}
	for high := range 5 {
		w, _ := f.wood(high, 0)
		for _, committed := range []bool{false, true} {
			x := grown(t, 512, 4000, w, committed)
			if l := x.sound("grown"); l.high != high {
				t.Fatalf("High: %d, want %d", l.high, high)
			}
			want(t, "Drop", x.b.Drop(), nil)
			live(t, "Drop", x.s)
			if x.s.Root() != 0 {
				t.Errorf("Drop: the root is %d", x.s.Root())
			}
			if b, err := btree.New(x.s); b == nil || err != api.OK {
				t.Errorf("New behind Drop: %v, %v", b, err)
			}
			sound(t, "New behind Drop", x.b, x.s, world{})
		}
	}
}

// Bytes of a leaf's payload by the chapter of layer 5, to hold what stands in the pages against.
func TestLeafPayload(t *testing.T) {
	x := begun(t, 512, 64)
	x.put("abc", "23")
	x.put("ab", "1")
	asked, _ := leaf.Encode(512, []api.Entry{{Key: []byte("ab"), Value: []byte("1")}, {Key: []byte("abc"), Value: []byte("23")}})
	kind, payload, err := x.s.Get(x.s.Root())
	if kind != api.Leaf || string(payload) != string(asked) || err != api.OK {
		t.Errorf("the root is %v, %x, %v", kind, payload, err)
	}
}
