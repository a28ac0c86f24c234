package betree_test

import (
	"errors"
	"fmt"
	"slices"
	"strings"
	"testing"

	"banyan/api"
	"banyan/betree"
	"banyan/dev"
	"banyan/pages"
)

// greedy is the policy of trees by which it does not matter.
func greedy() api.Policy { return api.Policy{Kind: api.Greedy} }

// live holds the pages that there are against those that are asked.
func live(t *testing.T, what string, s *pages.Store, asked ...int) {
	t.Helper()
	slices.Sort(asked)
	if got := s.Live(); !slices.Equal(got, asked) {
		t.Errorf("%s: the pages are %v, want %v", what, got, asked)
	}
}

// sicken makes the device refuse a Commit.
func sicken(t *testing.T, d *dev.Dev, s *pages.Store) {
	t.Helper()
	if err := d.Arm(1, api.Fail, false); err != api.OK {
		t.Fatalf("Arm: %v", err)
	}
	if err := s.Commit(); err != api.ErrDevFail {
		t.Fatalf("Commit: %v", err)
	}
}

// past is what was committed last, as a store that nobody can change.
func past(t *testing.T, s *pages.Store) *pages.Store {
	t.Helper()
	old, err := s.At("")
	if err != api.OK {
		t.Fatalf("At: %v", err)
	}
	return old
}

// beside is the store, seen with another root.
func beside(t *testing.T, s *pages.Store, root int) *pages.Store {
	t.Helper()
	b, err := s.Beside(root)
	if err != api.OK {
		t.Fatalf("Beside: %v", err)
	}
	return b
}

// The chapter's examples.
func TestExamples(t *testing.T) {
	for _, p := range policies() {
		x := begun(t, 512, 200, p)
		x.sound("New")
		gets(t, "New", x.b, world{}, "a")
		x.put("a", "1")
		x.put("b", "2")
		gets(t, "Put", x.b, world{"a": "1"}, "a")
		if x.b.Stamp() != 3 {
			t.Errorf("Stamp: %d, want 3", x.b.Stamp())
		}
		x.del("a")
		x.cut(from("b"))
		if x.b.Stamp() != 6 {
			t.Errorf("Stamp: %d, want 6", x.b.Stamp())
		}
		tells(t, "DeleteRange", x.b, world{}, from(""))
		if l := x.sound("DeleteRange"); l.high != 0 {
			t.Errorf("High: %d, want 0", l.high)
		}
		want(t, "Put of 33 bytes", x.b.Put(make([]byte, 33), nil), api.ErrLeafKey)
		want(t, "Put of 129 bytes", x.b.Put([]byte("a"), make([]byte, 129)), api.ErrLeafValue)
		want(t, "Put of both", x.b.Put(make([]byte, 33), make([]byte, 129)), api.ErrLeafKey)
		want(t, "DeleteRange from c up to c", x.b.DeleteRange(span("c", "c")), nil)
		want(t, "DeleteRange up to a byte 0", x.b.DeleteRange(span("", "\x00")), nil)
		if x.b.Stamp() != 6 {
			t.Errorf("Stamp: %d, want 6", x.b.Stamp())
		}
		x.sound("refused")
		if b, err := betree.New(x.s, p); b != nil || err != api.ErrBulkThere {
			t.Errorf("New again: %v, %v", b, err)
		}
		if b, err := betree.Open(x.s, p, 0); b != nil || err != api.ErrArg {
			t.Errorf("Open with the stamp 0: %v, %v", b, err)
		}
		s, _ := format(t, 512, 64)
		planted(t, s, other(api.Branch, "\x00\x00"))
		if b, err := betree.Open(s, p, 1); b != nil || err != api.ErrTreeKind {
			t.Errorf("Open of a Branch: %v, %v", b, err)
		}
	}
}

func TestNew(t *testing.T) {
	for _, size := range sizes {
		x := begun(t, size, 64, greedy())
		kind, payload, err := x.s.Get(x.s.Root())
		if kind != api.Leaf || string(payload) != "\x00\x00" || err != api.OK {
			t.Errorf("the root is %v, %x, %v", kind, payload, err)
		}
		x.sound("New")
		if x.b.Stamp() != 1 {
			t.Errorf("Stamp: %d, want 1", x.b.Stamp())
		}
	}
}

// none are policies that may not be.
func none() []api.Policy {
	return []api.Policy{{}, {Kind: 5}, {Kind: -1}, {Kind: api.Greedy, Picks: []int{1}}, {Kind: api.Script, Picks: make([]int, api.MaxPicks+1)}}
}

// What New refuses, and that nothing is changed then.
func TestNewRefused(t *testing.T) {
	refused := func(what string, s *pages.Store, p api.Policy, asked api.Errno) {
		t.Helper()
		root, pages := s.Root(), s.Live()
		b, err := betree.New(s, p)
		if b != nil || err != asked {
			t.Errorf("%s: %v, %v, want %v", what, b, err, asked)
		}
		if s.Root() != root {
			t.Errorf("%s: the root is %d, was %d", what, s.Root(), root)
		}
		live(t, what, s, pages...)
	}
	for _, p := range append(none(), greedy()) {
		if b, err := betree.New(nil, p); b != nil || err != api.ErrArg {
			t.Errorf("nil: %v, %v", b, err)
		}
	}
	for _, kind := range []api.PageKind{api.Leaf, api.Branch, api.Node, api.Other} {
		s, d := format(t, 512, 64)
		for _, p := range none() {
			refused("no policy", s, p, api.ErrPolicyKind)
			refused("no policy, in the past", past(t, s), p, api.ErrPolicyKind)
		}
		n, _ := s.New(kind, []byte("any"))
		s.SetRoot(n)
		for _, p := range none() {
			refused("no policy, and a root", s, p, api.ErrPolicyKind)
		}
		refused("a root", s, greedy(), api.ErrBulkThere)
		s.Commit()
		refused("a root in the past", past(t, s), greedy(), api.ErrBulkThere)
		s.Set(n, []byte("other"))
		sicken(t, d, s)
		refused("a root of a sick one", s, greedy(), api.ErrBulkThere)
	}
	s, d := format(t, 512, 64)
	refused("the past", past(t, s), greedy(), api.ErrPagesSnap)
	x := &trial{t: t, s: s}
	x.fill(0)
	refused("a full one", s, greedy(), api.ErrFull)
	refused("a full one, seen beside itself", beside(t, s, 0), greedy(), api.ErrFull)
	sicken(t, d, s)
	refused("a sick one", s, greedy(), api.ErrPagesSick)
}

func TestOpen(t *testing.T) {
	refused := func(what string, s *pages.Store, p api.Policy, stamp uint64, asked api.Errno) {
		t.Helper()
		if b, err := betree.Open(s, p, stamp); b != nil || err != asked {
			t.Errorf("%s: %v, %v, want %v", what, b, err, asked)
		}
	}
	refused("nil", nil, greedy(), 1, api.ErrArg)
	refused("nil", nil, api.Policy{}, 0, api.ErrArg)
	s, _ := format(t, 512, 64)
	wrong := []uint64{0, 1<<61 + 1, 1 << 62, 1 << 63, ^uint64(0)}
	for _, stamp := range wrong {
		refused("a stamp", s, greedy(), stamp, api.ErrArg)
		refused("a stamp, and no policy", s, api.Policy{}, stamp, api.ErrArg)
	}
	for _, p := range none() {
		refused("no policy", s, p, 1, api.ErrPolicyKind)
	}
	refused("no root", s, greedy(), 1, api.ErrTreeKind)
	refused("no root in the past", past(t, s), greedy(), 1, api.ErrTreeKind)
	for _, kind := range []api.PageKind{api.Branch, api.Other} {
		n, _ := s.New(kind, []byte("\x00\x00"))
		s.SetRoot(n)
		refused("a root of another kind", s, greedy(), 1, api.ErrTreeKind)
		refused("a root of another kind, and no policy", s, api.Policy{}, 1, api.ErrPolicyKind)
	}
	for _, w := range []wood{twig("a"), fork("b", twig("a"), twig("b")).with("5-a 7+c=c")} {
		x := grown(t, 512, 64, w, greedy(), true)
		for _, stamp := range []uint64{8, 1 << 40, 1<<61 - 1, 1 << 61} {
			b := opened(t, x.s, x.p, stamp)
			if b.Stamp() != stamp {
				t.Errorf("Stamp: %d, want %d", b.Stamp(), stamp)
			}
			sound(t, "Open", b, x.s, x.now)
			tellsAll(t, "Open", b, x.now)
			sound(t, "Open of the past", opened(t, past(t, x.s), x.p, stamp), past(t, x.s), x.now)
		}
		for _, stamp := range wrong {
			refused("a stamp", x.s, greedy(), stamp, api.ErrArg)
		}
		root := x.s.Root()
		for _, at := range []int{0, 40, 100, 511} {
			x.d.Flip(root, at, 1)
			_, _, why := x.s.Get(root)
			if why == api.OK {
				t.Fatal("a turned bit is not told")
			}
			refused("a turned root", x.s, greedy(), 1, why)
			refused("a turned root, and no policy", x.s, api.Policy{Kind: 9}, 1, api.ErrPolicyKind)
			x.d.Flip(root, at, 1)
		}
		x.d.Arm(1, api.Stop, false)
		x.d.Barrier()
		refused("the power is off", x.s, greedy(), 1, api.ErrDevOff)
	}
}

// Open asks no more of the root than of which kind it is.
func TestOpenOfAnyBytes(t *testing.T) {
	for kind, why := range map[api.PageKind]api.Errno{api.Leaf: api.ErrLeafForm, api.Node: api.ErrNodeForm} {
		s, _ := format(t, 512, 64)
		n := planted(t, s, other(kind, "no such page"))[0]
		_, err := opened(t, s, greedy(), 1).High()
		if !lost(err, n, why) {
			t.Errorf("High: %v", err)
		}
	}
}

// The last stamps that there are: messages have them, and the pages may be.
func TestLastStamps(t *testing.T) {
	x := grown(t, 512, 500, fork("m", fat("b", "d", "f"), fat("p", "t", "v")), greedy(), true)
	x.stamp = 1 << 61
	x.b = opened(t, x.s, x.p, x.stamp)
	for i := range 50 {
		x.put(fmt.Sprint("k", i), strings.Repeat("v", i))
		x.del(fmt.Sprint("k", i/2))
		x.cut(from(fmt.Sprint("k", i+40)))
	}
	x.sound("the last stamps")
	tellsAll(t, "the last stamps", x.b, x.now)
}

// calls are all that a tree can be asked for a key, or of all, by what they are; each tells its error, and whether its other answers are zero.
func calls(b *betree.Tree, key []byte, value []byte) map[string]func() (error, bool) {
	scan := func(r api.Range) (error, bool) {
		wrong := error(api.ErrArg)
		n := 0
		for range b.Scan(r, &wrong) {
			n++
		}
		return wrong, n == 0
	}
	return map[string]func() (error, bool){
		"Get":                 func() (error, bool) { v, is, err := b.Get(key); return err, v == nil && !is },
		"Put":                 func() (error, bool) { return b.Put(key, value), true },
		"Delete":              func() (error, bool) { return b.Delete(key), true },
		"DeleteRange":         func() (error, bool) { return b.DeleteRange(api.Range{Lo: key, All: true}), true },
		"DeleteRange of none": func() (error, bool) { return b.DeleteRange(api.Range{Lo: key}), true },
		"Scan":                func() (error, bool) { return scan(api.Range{Lo: key, All: true}) },
		"Scan of none":        func() (error, bool) { return scan(api.Range{Lo: key}) },
		"High":                func() (error, bool) { n, err := b.High(); return err, n == 0 },
		"Flush":               func() (error, bool) { return b.Flush(), true },
		"Drop":                func() (error, bool) { return b.Drop(), true },
	}
}

// answers holds what all calls answer of a key and a value against the errors that are asked; those that have none in the table are not called.
func answers(t *testing.T, what string, b *betree.Tree, key []byte, value []byte, asked map[string]error) {
	t.Helper()
	stamp := b.Stamp()
	for name, call := range calls(b, key, value) {
		want, is := asked[name]
		if !is {
			continue
		}
		err, zero := call()
		if err != want || err != nil && !zero {
			t.Errorf("%s: %s: %v (else nothing: %v), want %v", what, name, err, zero, want)
		}
		if err != nil && b.Stamp() != stamp {
			t.Errorf("%s: %s: Stamp is %d, was %d", what, name, b.Stamp(), stamp)
		}
	}
}

// Where there is no root, all calls but Stamp answer that, whatever else is wrong.
func TestNoRoot(t *testing.T) {
	all := map[string]error{}
	for name := range calls(nil, nil, nil) {
		all[name] = api.ErrTreeKind
	}
	for _, key := range [][]byte{nil, []byte("a"), make([]byte, 33)} {
		for _, value := range [][]byte{nil, make([]byte, 129)} {
			x := begun(t, 512, 64, greedy())
			x.put("a", "1")
			want(t, "Drop", x.b.Drop(), nil)
			answers(t, "no root", x.b, key, value, all)
			live(t, "no root", x.s)
			if x.b.Stamp() != 2 {
				t.Errorf("Stamp: %d", x.b.Stamp())
			}
			sicken(t, x.d, x.s)
			answers(t, "no root, and sick", x.b, key, value, all)
		}
	}
}

// Keys and values at their limits, and one beyond, at all sizes, where they wait and where they do not.
func TestKeysAndValues(t *testing.T) {
	for _, size := range sizes {
		for _, much := range []int{0, 3 * size} {
			x := begun(t, size, 200, greedy())
			for i := 0; i < much; i += 60 {
				x.put(fmt.Sprint("much ", i), strings.Repeat("m", 50))
			}
			long, longest := strings.Repeat("k", size/16), strings.Repeat("v", size/4)
			for _, key := range []string{"k", "\x00", "\xff", long} {
				for _, value := range []string{"", "v", longest} {
					x.put(key, value)
					gets(t, "Put", x.b, x.now, key)
				}
			}
			x.sound("the limits")
			for _, key := range []string{"", long + "k", strings.Repeat("k", 3*size)} {
				refused := map[string]error{"Get": api.ErrLeafKey, "Put": api.ErrLeafKey, "Delete": api.ErrLeafKey}
				if key != "" {
					refused["DeleteRange"], refused["DeleteRange of none"] = api.ErrLeafKey, api.ErrLeafKey
					refused["Scan of none"] = nil
				}
				answers(t, "keys that may not be", x.b, []byte(key), []byte("v"), refused)
				answers(t, "keys and values that may not be", x.b, []byte(key), []byte(longest+"v"), refused)
			}
			answers(t, "values that may not be", x.b, []byte(long), []byte(longest+"v"), map[string]error{"Put": api.ErrLeafValue})
			answers(t, "values that may not be", x.b, []byte("new"), make([]byte, 5*size), map[string]error{"Put": api.ErrLeafValue})
			x.sound("refused")
			tellsAll(t, "refused", x.b, x.now)
			for _, key := range x.now.keys(from("")) {
				x.del(key)
				gets(t, "Delete", x.b, x.now, key)
			}
			x.sound("deleted")
			x.flush()
			x.sound("flushed")
		}
	}
}

// A DeleteRange's ends, at their limits and one beyond: Hi is asked only where the range is not of All. The stamps are held by trial.
func TestDeleteRangeEnds(t *testing.T) {
	for _, size := range sizes {
		x := begun(t, size, 200, greedy())
		most := size / 16
		lasts := strings.Repeat("\xff", most)
		fresh := func() {
			for _, key := range []string{"\x00", "a", "b", lasts[1:], lasts} {
				x.put(key, strings.Repeat("v", size/8))
			}
		}
		fresh()
		ends := []string{"", "\x00", "\x00\x00", "a", lasts[1:], lasts[1:] + "\xfe", lasts[1:] + "\xfe\xff", lasts, lasts + "\x00", strings.Repeat("b", most+1), strings.Repeat("\xff", 4*size)}
		for _, lo := range ends {
			for _, hi := range ends {
				for _, all := range []bool{false, true} {
					r := api.Range{Lo: []byte(lo), Hi: []byte(hi), All: all}
					if len(lo) <= most && (all || len(hi) <= most) {
						x.cut(r)
						x.sound("DeleteRange")
						fresh()
						continue
					}
					want(t, fmt.Sprint("DeleteRange of ", r), x.b.DeleteRange(r), api.ErrLeafKey)
				}
			}
		}
		x.sound("refused")
		tellsAll(t, "refused", x.b, x.now)
	}
}

// Ranges that have no keys that may be: nothing is done, not even where nothing could be.
func TestVainRanges(t *testing.T) {
	x := grown(t, 512, 64, fork("b d", twig("a"), twig("b", "c"), twig("d")).with("5+a=x 6-d"), greedy(), true)
	vain := []api.Range{{}, span("a", "a"), span("c", "b"), span("z", ""), {Hi: []byte{}}, span("", "\x00"), span(strings.Repeat("\xff", 32), strings.Repeat("\xff", 31))}
	nothing := func(what string, b *betree.Tree) {
		t.Helper()
		stamp := b.Stamp()
		for _, r := range vain {
			want(t, what, b.DeleteRange(r), nil)
			tells(t, what, b, x.now, r)
		}
		if b.Stamp() != stamp {
			t.Errorf("%s: Stamp is %d, was %d", what, b.Stamp(), stamp)
		}
	}
	pages := x.s.Live()
	_, w := x.d.Count()
	nothing("a tree", x.b)
	nothing("the past", opened(t, past(t, x.s), x.p, 1<<50))
	if _, now := x.d.Count(); now != w {
		t.Error("something is written")
	}
	live(t, "a tree", x.s, pages...)
	x.put("e", "new")
	sicken(t, x.d, x.s)
	nothing("a sick one", x.b)
	// A page that cannot be read is not asked for.
	x.reopen()
	x.d.Flip(x.s.Root(), 50, 4)
	want(t, "a lost root", x.b.DeleteRange(span("b", "b")), nil)
	want(t, "a lost root", x.b.DeleteRange(span("", "\x00")), nil)
}

// Scan takes ranges with ends of any bytes.
func TestScanRanges(t *testing.T) {
	for _, w := range []wood{
		twig("a", "b", "ba", "c"),
		fork("b d", twig("a", "ab"), twig("b", "ba", "c"), twig("d", "\xff\xff")).with("3-a 9+aa=1 4+b=2 5-ba:c 6+bb=3 1-d:z"),
		fork("m", fork("c f", twig("a"), twig("c", "d"), twig("f")).with("5-a 3-c:f 6+e=e"), fork("p t", twig("m", "mm"), twig("p"), twig("t", "z"))).with("9-b:cc 10+a=9 8+n=8 11-n:p 12+o=12"),
	} {
		x := grown(t, 512, 64, w, greedy(), true)
		ends := append(w.separators(), "", "\x00", "0", "zz", strings.Repeat("c", 500), strings.Repeat("\xff", 700))
		for key := range x.now {
			ends = append(ends, key, key+"\x00")
		}
		for _, lo := range ends {
			if lo != "" && len(lo) <= 32 {
				gets(t, "Get", x.b, x.now, lo)
			}
			for _, hi := range ends {
				tells(t, "Scan", x.b, x.now, span(lo, hi))
				tells(t, "Scan", x.b, x.now, api.Range{Lo: []byte(lo), Hi: []byte(hi), All: true})
			}
		}
		tells(t, "Scan", x.b, x.now, api.Range{All: true})
	}
}

// P6: what Scan tells is what there is when it is ranged over, each time.
func TestScanTellsWhatThereIs(t *testing.T) {
	x := grown(t, 512, 64, fork("c", twig("a", "b"), twig("c", "d")).with("5+bc=5"), greedy(), true)
	r := span("b", "d")
	wrong := error(api.ErrArg)
	s := x.b.Scan(r, &wrong)
	if wrong != error(api.ErrArg) {
		t.Error("Scan says something ahead of the loop")
	}
	holds := func(what string) {
		t.Helper()
		told := world{}
		for key, value := range s {
			told[string(key)] = string(value)
		}
		if told.show(from("")) != x.now.show(r) || wrong != nil {
			t.Errorf("%s: %s, %v, want %s", what, told.show(from("")), wrong, x.now.show(r))
		}
	}
	holds("Scan")
	x.put("bb", "1")
	x.del("c")
	holds("changed")
	x.flush()
	holds("flushed")
	x.commit()
	holds("committed")
	x.cut(from(""))
	holds("nothing")
	want(t, "Drop", x.b.Drop(), nil)
	for range s {
		t.Error("no tree tells something")
	}
	want(t, "no tree", wrong, api.ErrTreeKind)
	betree.New(x.s, x.p)
	x.now = world{}
	holds("another one")
	x.put("bc", "2")
	holds("something of another one")
}

// P6: a loop may be left early, ranged over again, also within its own loop; nobody need be told of errors.
func TestScanLoops(t *testing.T) {
	w := fork("c e g", twig("a", "b"), twig("c", "d"), twig("e"), twig("g", "h")).with("4-b 6+bb=1 5-c:e 1-e 9+z=z")
	x := grown(t, 512, 64, w, greedy(), true)
	keys := x.now.keys(from(""))
	wrong := error(nil)
	for _, s := range []func(func([]byte, []byte) bool){x.b.Scan(from(""), nil), x.b.Scan(from(""), &wrong)} {
		for most := range len(keys) + 1 {
			var told []string
			for key := range s {
				if len(told) == most {
					break
				}
				told = append(told, string(key))
			}
			if !slices.Equal(told, keys[:most]) || wrong != nil {
				t.Errorf("the first %d: %q, %v", most, told, wrong)
			}
		}
		var pairs, asked []string
		for one := range s {
			for other := range s {
				pairs = append(pairs, string(one)+string(other))
			}
		}
		for _, one := range keys {
			for _, other := range keys {
				asked = append(asked, one+other)
			}
		}
		if !slices.Equal(pairs, asked) {
			t.Errorf("within its own loop: %q", pairs)
		}
	}
	root := x.s.Root()
	x.d.Flip(root, 50, 1)
	for range x.b.Scan(from(""), nil) {
		t.Error("a lost tree tells something")
	}
}

// What a loop gives up by a panic is its own.
func TestScanLoopPanics(t *testing.T) {
	x := grown(t, 512, 64, fork("c", twig("a", "b"), twig("c", "d")).with("5+bb=5"), greedy(), true)
	for _, why := range []any{"why", api.ErrFull, errors.New("why"), &api.Lost{Page: 2, Err: api.ErrTreeShape}} {
		wrong := error(api.ErrArg)
		func() {
			defer func() {
				if got := recover(); got != why {
					t.Errorf("recovered %v, want %v", got, why)
				}
			}()
			for key := range x.b.Scan(from(""), &wrong) {
				if string(key) == "c" {
					panic(why)
				}
			}
		}()
		want(t, "wrong", wrong, nil)
	}
	tellsAll(t, "a loop has panicked", x.b, x.now)
}

// On a store that nothing can change all changes answer that, whether there is anything to be changed or not, ahead of what is lost.
func TestUnchangeable(t *testing.T) {
	changes := func(why error) map[string]error {
		return map[string]error{"Put": why, "Delete": why, "DeleteRange": why, "Flush": why, "Drop": why, "DeleteRange of none": nil}
	}
	refused := func(what string, x *trial, s *pages.Store, w world, why api.Errno, isLost bool) {
		t.Helper()
		b, pages, root := opened(t, s, x.p, x.stamp), s.Live(), s.Root()
		if isLost {
			turn(t, x.d, root)
		}
		for _, key := range []string{"a", "b", "x", strings.Repeat("z", 32)} {
			answers(t, what, b, []byte(key), []byte("new"), changes(why))
			answers(t, what, b, []byte(key), []byte(w[key]), changes(why))
			answers(t, what+", too long a value", b, []byte(key), make([]byte, 129), map[string]error{"Put": api.ErrLeafValue})
		}
		answers(t, what+", keys that may not be", b, nil, nil, map[string]error{"Put": api.ErrLeafKey, "Delete": api.ErrLeafKey})
		answers(t, what+", keys that may not be", b, make([]byte, 33), nil, map[string]error{"Put": api.ErrLeafKey, "Delete": api.ErrLeafKey, "DeleteRange": api.ErrLeafKey})
		if isLost {
			turn(t, x.d, root)
		}
		if s.Root() != root {
			t.Errorf("%s: the root is %d, was %d", what, s.Root(), root)
		}
		live(t, what, s, pages...)
		tellsAll(t, what, b, w)
		sound(t, what, b, s, w)
	}
	for _, w := range []wood{twig(), twig("a", "b"), fork("b", twig("a"), twig("b", "c")), fork("b", twig("a"), twig("b", "c")).with("3-a 5-b:bb 9+x=x")} {
		for _, isLost := range []bool{false, true} {
			x := grown(t, 512, 64, w, greedy(), true)
			was := x.last
			refused("the past", x, past(t, x.s), x.now, api.ErrPagesSnap, isLost)
			x.s.Snap("s")
			x.commit()
			x.put("q", "another")
			x.commit()
			old, err := x.s.At("s")
			if err != api.OK {
				t.Fatalf("At: %v", err)
			}
			refused("a snapshot", x, old, was, api.ErrPagesSnap, isLost)
			refused("a snapshot, seen beside itself", x, beside(t, old, old.Root()), was, api.ErrPagesSnap, isLost)
			sicken(t, x.d, x.s)
			refused("a sick one", x, x.s, x.now, api.ErrPagesSick, isLost)
			x = grown(t, 512, 64, w, greedy(), true)
			x.put("q", "another")
			sicken(t, x.d, x.s)
			refused("a sick one, changed", x, x.s, x.now, api.ErrPagesSick, false)
		}
	}
}

// turn turns a bit of a page, so that it cannot be read; or turns it back.
func turn(t *testing.T, d *dev.Dev, n int) {
	t.Helper()
	if err := d.Flip(n, 40, 4); err != api.OK {
		t.Fatalf("Flip: %v", err)
	}
}

// Two trees in one store, the one seen beside the other: what is done with one is not seen in the other.
func TestBeside(t *testing.T) {
	x := begun(t, 512, 400, greedy())
	s := beside(t, x.s, 0)
	_, err := betree.Open(s, x.p, 1)
	want(t, "Open beside", err, api.ErrTreeKind)
	b, err := betree.New(s, api.Policy{Kind: api.Round})
	if b == nil || err != api.OK {
		t.Fatalf("New beside: %v, %v", b, err)
	}
	y := &trial{t: t, d: x.d, s: s, b: b, now: world{}, stamp: 1}
	var r dice
	both := func(what string) {
		t.Helper()
		l, m := look(t, what, x.s, x.stamp), look(t, what, s, y.stamp)
		sound(t, what, x.b, x.s, x.now, m.pages...)
		sound(t, what, b, s, y.now, l.pages...)
	}
	for i := range 600 {
		z := []*trial{x, y}[r.below(2)]
		switch r.below(12) {
		case 0:
			z.cut(r.span(512))
		case 1, 2, 3:
			z.del(r.key(512))
		case 4:
			if err := x.s.Commit(); err != api.OK {
				t.Fatal(err)
			}
		case 5:
			z.flush()
		default:
			z.put(r.key(512), r.value(512))
		}
		if i%20 == 0 {
			both("two trees")
		}
	}
	tellsAll(t, "the one", x.b, x.now)
	tellsAll(t, "the other one", b, y.now)
	want(t, "Drop", b.Drop(), nil)
	if s.Root() != 0 {
		t.Errorf("Drop beside: the root is %d", s.Root())
	}
	x.sound("the other one is dropped")
}

// A tree leaves pages that are not its own alone.
func TestOtherPages(t *testing.T) {
	x := begun(t, 512, 400, greedy())
	for i := range 20 {
		n, err := x.s.New([]api.PageKind{api.Leaf, api.Branch, api.Node, api.Other}[i%4], []byte(fmt.Sprint("page ", i)))
		if err != api.OK {
			t.Fatal(err)
		}
		x.others = append(x.others, n)
	}
	x.commit()
	var r dice
	for range 300 {
		x.put(r.key(512), r.value(512))
		x.del(r.key(512))
	}
	x.cut(r.span(512))
	x.flush()
	x.sound("other pages")
	want(t, "Drop", x.b.Drop(), nil)
	live(t, "Drop", x.s, x.others...)
	for i, n := range x.others {
		if _, payload, err := x.s.Get(n); string(payload) != fmt.Sprint("page ", i) || err != api.OK {
			t.Errorf("the page %d is %q, %v", n, payload, err)
		}
	}
}

// High is how far the leaves are; Drop frees all pages, also those of high trees, and the stamp stays.
func TestHighAndDrop(t *testing.T) {
	f := &forest{size: 512, dice: new(dice)}
	for high := range 5 {
		w := f.tree(high, 0)
		for _, committed := range []bool{false, true} {
			x := grown(t, 512, 4000, w, greedy(), committed)
			if l := x.sound("grown"); l.high != high {
				t.Fatalf("High: %d, want %d", l.high, high)
			}
			want(t, "Drop", x.b.Drop(), nil)
			live(t, "Drop", x.s)
			if x.s.Root() != 0 || x.b.Stamp() != x.stamp {
				t.Errorf("Drop: the root is %d, the stamp %d", x.s.Root(), x.b.Stamp())
			}
			if b, err := betree.New(x.s, x.p); b == nil || err != api.OK {
				t.Errorf("New behind Drop: %v, %v", b, err)
			}
			x.now = world{}
			x.sound("New behind Drop")
		}
	}
}
