package btree_test

import (
	"bytes"
	"errors"
	"fmt"
	"maps"
	"slices"
	"strings"
	"testing"

	"banyan/api"
	"banyan/branch"
	"banyan/btree"
	"banyan/dev"
	"banyan/leaf"
	"banyan/pages"
)

// sizes are all that a block may have.
var sizes = []int{512, 1024, 2048, 4096}

// device is a new one.
func device(t *testing.T, size int, blocks int) *dev.Dev {
	t.Helper()
	d, err := dev.New(size, blocks)
	if err != api.OK {
		t.Fatalf("dev.New: %v", err)
	}
	return d
}

// format is a new store on a new device.
func format(t *testing.T, size int, blocks int) (*pages.Store, *dev.Dev) {
	t.Helper()
	d := device(t, size, blocks)
	s, err := pages.Format(d)
	if err != api.OK {
		t.Fatalf("Format: %v", err)
	}
	return s, d
}

// opened is the tree of a store.
func opened(t *testing.T, s *pages.Store) *btree.Tree {
	t.Helper()
	b, err := btree.Open(s)
	if err != api.OK || b == nil {
		t.Fatalf("Open: %v", err)
	}
	return b
}

// span is the range from lo up to hi, from that of All.
func span(lo string, hi string) api.Range { return api.Range{Lo: []byte(lo), Hi: []byte(hi)} }
func from(lo string) api.Range            { return api.Range{Lo: []byte(lo), All: true} }

// has is whether a range has a key, by the library's order.
func has(r api.Range, key string) bool {
	return key >= string(r.Lo) && (r.All || key < string(r.Hi))
}

// world is a map, by the chapter's words.
type world map[string]string

// keys are those of a range, rising.
func (w world) keys(r api.Range) []string {
	keys := slices.Sorted(maps.Keys(w))
	return slices.DeleteFunc(keys, func(key string) bool { return !has(r, key) })
}

// show writes the entries of a range so that they can be told apart.
func (w world) show(r api.Range) string {
	var b strings.Builder
	for _, key := range w.keys(r) {
		fmt.Fprintf(&b, "%x=%x ", key, w[key])
	}
	return b.String()
}

// told is what Scan tells, and the error by which it ends.
func told(b *btree.Tree, r api.Range) (string, error) {
	var l strings.Builder
	wrong := error(api.ErrArg)
	for key, value := range b.Scan(r, &wrong) {
		fmt.Fprintf(&l, "%x=%x ", key, value)
	}
	return l.String(), wrong
}

// tells holds what Scan tells of a range against a map.
func tells(t *testing.T, what string, b *btree.Tree, w world, r api.Range) {
	t.Helper()
	got, err := told(b, r)
	if want := w.show(r); got != want || err != nil {
		t.Fatalf("%s: Scan of %v: %s, %v, want %s", what, r, got, err, want)
	}
}

// gets holds what Get tells of a key against a map.
func gets(t *testing.T, what string, b *btree.Tree, w world, key string) {
	t.Helper()
	value, there, err := b.Get([]byte(key))
	want, is := w[key]
	if string(value) != want || there != is || err != nil {
		t.Fatalf("%s: Get of %x: %x, %v, %v, want %x, %v", what, key, value, there, err, want, is)
	}
}

// tellsAll holds all that a tree tells against a map.
func tellsAll(t *testing.T, what string, b *btree.Tree, w world) {
	t.Helper()
	tells(t, what, b, w, api.Range{All: true})
	for key := range w {
		gets(t, what, b, w, key)
	}
}

// looked is what there is of a tree, found by the lower layers alone.
type looked struct {
	high   int
	pages  []int // rising
	leaves int
	world  world
}

// look goes through the tree of a store, and holds it against the chapter's shape.
func look(t *testing.T, what string, s *pages.Store) looked {
	t.Helper()
	l := looked{high: -1, world: world{}}
	l.visit(t, what, s, s.Root(), api.Range{All: true}, 0)
	slices.Sort(l.pages)
	if len(slices.Compact(slices.Clone(l.pages))) != len(l.pages) {
		t.Fatalf("%s: a page is in the tree twice: %v", what, l.pages)
	}
	if n := max(1, len(l.world)); 1<<l.high > n {
		t.Fatalf("%s: High is %d, of %d entries", what, l.high, len(l.world))
	}
	return l
}

func (l *looked) visit(t *testing.T, what string, s *pages.Store, n int, r api.Range, depth int) {
	t.Helper()
	l.pages = append(l.pages, n)
	kind, payload, err := s.Get(n)
	if err != api.OK {
		t.Fatalf("%s: the page %d: %v", what, n, err)
	}
	switch kind {
	case api.Leaf:
		l.leaf(t, what, s, n, payload, r, depth)
	case api.Branch:
		k, err := branch.Decode(s.Size(), payload)
		if err != api.OK {
			t.Fatalf("%s: the branch %d: %v", what, n, err)
		}
		for _, key := range k.Keys {
			if !has(r, string(key)) || string(key) == string(r.Lo) {
				t.Fatalf("%s: the branch %d has the key %x, its Span is %v", what, n, key, r)
			}
		}
		for i, m := range k.Pages {
			within := r
			if i > 0 {
				within.Lo = k.Keys[i-1]
			}
			if i < len(k.Keys) {
				within.Hi, within.All = k.Keys[i], false
			}
			l.visit(t, what, s, m, within, depth+1)
		}
	default:
		t.Fatalf("%s: the page %d is of the kind %d", what, n, kind)
	}
}

func (l *looked) leaf(t *testing.T, what string, s *pages.Store, n int, payload []byte, r api.Range, depth int) {
	t.Helper()
	entries, err := leaf.Decode(s.Size(), payload)
	if err != api.OK {
		t.Fatalf("%s: the leaf %d: %v", what, n, err)
	}
	if l.high < 0 {
		l.high = depth
	}
	if l.high != depth || len(entries) == 0 && n != s.Root() {
		t.Fatalf("%s: the leaf %d has %d entries, at the depth %d, not %d", what, n, len(entries), depth, l.high)
	}
	l.leaves++
	for _, e := range entries {
		if !has(r, string(e.Key)) {
			t.Fatalf("%s: the leaf %d has the key %x, its Span is %v", what, n, e.Key, r)
		}
		l.world[string(e.Key)] = string(e.Value)
	}
}

// sound holds a tree against its shape, the pages that there are, and a map.
func sound(t *testing.T, what string, b *btree.Tree, s *pages.Store, w world, others ...int) looked {
	t.Helper()
	l := look(t, what, s)
	if high, err := b.High(); high != l.high || err != nil {
		t.Fatalf("%s: High: %d, %v, want %d", what, high, err, l.high)
	}
	all := slices.Sorted(slices.Values(slices.Concat(l.pages, others)))
	if !slices.Equal(all, s.Live()) {
		t.Fatalf("%s: the tree's pages and others are %v, there are %v", what, all, s.Live())
	}
	if !maps.Equal(l.world, w) {
		t.Fatalf("%s: the leaves have %s, want %s", what, l.world.show(from("")), w.show(from("")))
	}
	return l
}

// trial is a tree, and what it must tell.
type trial struct {
	t         *testing.T
	d         *dev.Dev
	s         *pages.Store
	b         *btree.Tree
	now, last world // the present map, the committed one
}

// begun is a new tree, committed.
func begun(t *testing.T, size int, blocks int) *trial {
	t.Helper()
	s, d := format(t, size, blocks)
	b, err := btree.New(s)
	if err != api.OK || b == nil {
		t.Fatalf("New: %v", err)
	}
	x := &trial{t: t, d: d, s: s, b: b, now: world{}}
	x.commit()
	return x
}

// full tells whether an answer is ErrFull, which it may be only where little is left; any other error fails.
func (x *trial) full(what string, err error) bool {
	x.t.Helper()
	if err == nil {
		return false
	}
	high, _ := x.b.High()
	if err != error(api.ErrFull) || x.s.Left() >= 8*(high+2) {
		x.t.Fatalf("%s: %v, where %d are left, High %d", what, err, x.s.Left(), high)
	}
	return true
}

// put gives a key a value, if there is room.
func (x *trial) put(key string, value string) bool {
	x.t.Helper()
	if x.full("Put", x.b.Put([]byte(key), []byte(value))) {
		return false
	}
	x.now[key] = value
	return true
}

// del takes a key away, if there is room.
func (x *trial) del(key string) bool {
	x.t.Helper()
	was, err := x.b.Delete([]byte(key))
	_, there := x.now[key]
	if full := x.full("Delete", err); full || was != there {
		if !full || was {
			x.t.Fatalf("Delete of %x: %v, want %v", key, was, there)
		}
		return false
	}
	delete(x.now, key)
	return true
}

// cut takes the keys of a range away, if there is room.
func (x *trial) cut(r api.Range) bool {
	x.t.Helper()
	n, err := x.b.DeleteRange(r)
	keys := x.now.keys(r)
	if full := x.full("DeleteRange", err); full || n != len(keys) {
		if !full || n != 0 {
			x.t.Fatalf("DeleteRange of %v: %d, want %d", r, n, len(keys))
		}
		return false
	}
	for _, key := range keys {
		delete(x.now, key)
	}
	return true
}

// commit makes what there is last.
func (x *trial) commit() {
	x.t.Helper()
	if err := x.s.Commit(); err != api.OK {
		x.t.Fatalf("Commit: %v", err)
	}
	x.last = maps.Clone(x.now)
}

// abort takes back what was done since.
func (x *trial) abort() {
	x.t.Helper()
	if err := x.s.Abort(); err != api.OK {
		x.t.Fatalf("Abort: %v", err)
	}
	x.now = maps.Clone(x.last)
}

// reopen lets the power go, and opens all anew.
func (x *trial) reopen() {
	x.t.Helper()
	x.d.Restart(nil)
	s, _, err := pages.Open(x.d)
	if err != api.OK {
		x.t.Fatalf("Open: %v", err)
	}
	x.s, x.b, x.now = s, opened(x.t, s), maps.Clone(x.last)
}

// sound holds the tree against its shape, and its map.
func (x *trial) sound(what string) looked {
	x.t.Helper()
	return sound(x.t, what, x.b, x.s, x.now)
}

// wood is a tree by hand: entries of a leaf; or others, and the keys between them; or, of another kind, any bytes.
type wood struct {
	leaf     []api.Entry
	below    []wood
	keys     []string
	kind     api.PageKind // of any bytes
	bytes    string
	number   int // of a page that need not be there
	isNumber bool
}

// twig is a leaf of these keys, each with itself as its value.
func twig(keys ...string) wood {
	var w wood
	for _, key := range keys {
		w.leaf = append(w.leaf, api.Entry{Key: []byte(key), Value: []byte(key)})
	}
	return w
}

// fork is a branch; between its parts stand keys.
func fork(keys string, below ...wood) wood { return wood{below: below, keys: strings.Fields(keys)} }

// other is a page of any kind and bytes.
func other(kind api.PageKind, b string) wood { return wood{kind: kind, bytes: b} }

// planted makes the pages of a tree by hand; their numbers, from the root on, each ahead of those beneath it.
func planted(t *testing.T, s *pages.Store, w wood) []int {
	t.Helper()
	numbers := plant(t, s, w)
	if err := s.SetRoot(numbers[0]); err != api.OK {
		t.Fatalf("SetRoot: %v", err)
	}
	return numbers
}

func plant(t *testing.T, s *pages.Store, w wood) []int {
	t.Helper()
	if w.isNumber {
		return []int{w.number}
	}
	kind, payload, err := api.Leaf, []byte(w.bytes), api.OK
	var beneath []int
	switch {
	case w.kind != 0:
		kind = w.kind
	case len(w.below) > 0:
		kind = api.Branch
		var k api.Kids
		for _, one := range w.below {
			numbers := plant(t, s, one)
			k.Pages = append(k.Pages, numbers[0])
			beneath = append(beneath, numbers...)
		}
		for _, key := range w.keys {
			k.Keys = append(k.Keys, []byte(key))
		}
		payload, err = branch.Encode(s.Size(), k)
	default:
		payload, err = leaf.Encode(s.Size(), w.leaf)
	}
	if err != api.OK {
		t.Fatalf("a tree by hand: %v", err)
	}
	n, err := s.New(kind, payload)
	if err != api.OK {
		t.Fatalf("a page by hand: %v", err)
	}
	return append([]int{n}, beneath...)
}

// world is the map of a tree by hand.
func (w wood) world() world {
	all := world{}
	for _, e := range w.leaf {
		all[string(e.Key)] = string(e.Value)
	}
	for _, one := range w.below {
		maps.Copy(all, one.world())
	}
	return all
}

// separators are all keys between parts of a tree by hand.
func (w wood) separators() []string {
	all := slices.Clone(w.keys)
	for _, one := range w.below {
		all = append(all, one.separators()...)
	}
	return all
}

// grown is a tree by hand in a store of its own, committed or not.
func grown(t *testing.T, size int, blocks int, w wood, committed bool) *trial {
	t.Helper()
	s, d := format(t, size, blocks)
	planted(t, s, w)
	x := &trial{t: t, d: d, s: s, b: opened(t, s), now: w.world()}
	if committed {
		x.commit()
	}
	return x
}

// want holds an answered error against the one that is asked: by == , for no error is nil as an error.
func want(t *testing.T, what string, got error, asked error) {
	t.Helper()
	if got != asked {
		t.Errorf("%s: %v, want %v", what, got, asked)
	}
}

// lost tells whether an error is one of a page; the number of a page 0: of whichever.
func lost(err error, number int, why api.Errno) bool {
	l, ok := err.(*api.Lost)
	return ok && l != nil && (number == 0 || l.Page == number) && (why == api.OK || l.Err == why && errors.Is(err, why))
}

// dice are numbers that look thrown and are the same in every run.
type dice uint64

func (d *dice) below(n int) int {
	*d += 0x9e3779b97f4a7c15
	x := uint64(*d)
	x = (x ^ x>>30) * 0xbf58476d1ce4e5b9
	x = (x ^ x>>27) * 0x94d049bb133111eb
	return int((x ^ x>>31) % uint64(n))
}

// text is so many bytes of few kinds.
func (d *dice) text(long int) string {
	const letters = "\x00a\x80\xff"
	var b strings.Builder
	for range long {
		b.WriteByte(letters[d.below(len(letters))])
	}
	return b.String()
}

// key is one of those that may be, of three sorts: short; long, and begun like others; of any length.
func (d *dice) key(size int) string {
	most := size / 16
	switch d.below(3) {
	case 0:
		return d.text(1 + d.below(4))
	case 1:
		return strings.Repeat("a", most-4) + d.text(1+d.below(4))
	}
	return d.text(4) + strings.Repeat("b", d.below(most-3))
}

// value is one that may be: often none, or the longest.
func (d *dice) value(size int) string {
	switch d.below(4) {
	case 0:
		return ""
	case 1:
		return d.text(size / 4)
	}
	return d.text(d.below(size/4 + 1))
}

// span is a range, perhaps an empty one.
func (d *dice) span(size int) api.Range {
	return api.Range{Lo: []byte(d.key(size)), Hi: []byte(d.key(size)), All: d.below(8) == 0}
}

// one is one of a list.
func one[T any](d *dice, list []T) T { return list[d.below(len(list))] }

// forest makes trees by hand, whose keys rise by a count.
type forest struct {
	*dice
	size  int
	count int
}

// key is the next one; of a count, and some bytes behind it.
func (f *forest) key() string {
	f.count += 2
	long := f.below(f.size/16 - 2)
	if f.below(2) == 0 {
		long = []int{0, f.size/16 - 3}[f.below(2)]
	}
	return countKey(f.count) + strings.Repeat("x", long)
}

// countKey is a count as a beginning of a key.
func countKey(n int) string { return string([]byte{byte(n >> 16), byte(n >> 8), byte(n)}) }

// wood is a tree so high, and the first key that it has. Its leaves and branches may be as full as they can be, or have as little as they may.
func (f *forest) wood(high int, full int) (wood, string) {
	if high == 0 {
		return f.leaf(full)
	}
	w, first := f.wood(high-1, full)
	w = wood{below: []wood{w}}
	more := 2 + f.below(3)
	if f.below(100) < full {
		more = 1000
	}
	bytes := 2 + 4
	for len(w.below) < more {
		part, key := f.wood(high-1, full)
		between := key[:3+f.below(len(key)-2)]
		if f.below(3) == 0 {
			between = []string{key, key[:3]}[f.below(2)]
		}
		bytes += 4 + 2 + len(between)
		if bytes > f.size-32 && len(w.below) >= 2 {
			break
		}
		w.below, w.keys = append(w.below, part), append(w.keys, between)
	}
	return w, first
}

func (f *forest) leaf(full int) (wood, string) {
	var w wood
	more := 1 + f.below(3)
	if f.below(100) < full {
		more = 1000
	}
	for len(w.leaf) < more {
		e := api.Entry{Key: []byte(f.key()), Value: bytes.Repeat([]byte{'v'}, []int{0, 3, f.size / 4}[f.below(3)])}
		l := append(slices.Clone(w.leaf), e)
		if leaf.Bytes(l) > f.size-32 {
			break
		}
		w.leaf = l
	}
	return w, string(w.leaf[0].Key)
}
