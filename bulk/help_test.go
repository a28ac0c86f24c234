package bulk_test

import (
	"bytes"
	"fmt"
	"slices"
	"strings"
	"testing"

	"banyan/api"
	"banyan/branch"
	"banyan/bulk"
	"banyan/dev"
	"banyan/leaf"
	"banyan/merge"
	"banyan/node"
	"banyan/pages"
)

// sizes are all that a block may have.
var sizes = []int{512, 1024, 2048, 4096}

// maker is one of the two calls that make trees.
type maker struct {
	name string
	kind api.TreeKind
	make func(s *pages.Store, seq merge.Seq, fill int) (int, error)
}

func makers() []maker {
	return []maker{{"Eager", api.Eager, bulk.Eager}, {"Lazy", api.Lazy, bulk.Lazy}}
}

// format is a new store on a new device.
func format(t *testing.T, size int, blocks int) (*pages.Store, *dev.Dev) {
	t.Helper()
	d, err := dev.New(size, blocks)
	if err != api.OK {
		t.Fatalf("dev.New: %v", err)
	}
	s, err := pages.Format(d)
	if err != api.OK {
		t.Fatalf("Format: %v", err)
	}
	return s, d
}

// commit makes what there is last.
func commit(t *testing.T, s *pages.Store) {
	t.Helper()
	if err := s.Commit(); err != api.OK {
		t.Fatalf("Commit: %v", err)
	}
}

// occupy makes pages that are no tree's, until so many are left; their numbers.
func occupy(t *testing.T, s *pages.Store, left int) []int {
	t.Helper()
	var numbers []int
	for s.Left() > left {
		n, err := s.New(api.Other, []byte("other"))
		if err != api.OK {
			t.Fatalf("a page of others: %v", err)
		}
		numbers = append(numbers, n)
	}
	return numbers
}

// state writes all that a store tells, so that two states can be told apart.
func state(s *pages.Store) string {
	var b strings.Builder
	fmt.Fprintln(&b, s.Root(), s.Gen(), s.Left(), s.Snaps(), s.Meta())
	for _, n := range s.Live() {
		kind, payload, err := s.Get(n)
		fmt.Fprintln(&b, n, kind, err, payload)
	}
	return b.String()
}

// entry is one with texts.
func entry(key string, value string) api.Entry {
	return api.Entry{Key: []byte(key), Value: []byte(value)}
}

// letters are entries whose keys are so many letters, from a on, each with a value so long.
func letters(n int, long int) []api.Entry {
	var l []api.Entry
	for i := range n {
		l = append(l, entry(string(rune('a'+i)), strings.Repeat("v", long)))
	}
	return l
}

// lonely are entries of which no two have room in a leaf that is to be half full. Their keys are long, so that few children have room in a page, or short.
func lonely(size int, n int, long bool) []api.Entry {
	ahead := ""
	if long {
		ahead = strings.Repeat("x", size/16-2)
	}
	var l []api.Entry
	for i := range n {
		l = append(l, entry(ahead+string([]byte{byte(i >> 8), byte(i)}), strings.Repeat("v", size/4)))
	}
	return l
}

// shown writes entries so that they can be told apart.
func shown(l []api.Entry) string {
	var b strings.Builder
	for _, e := range l {
		fmt.Fprintf(&b, "%x=%x ", e.Key, e.Value)
	}
	return b.String()
}

// bytesOf is how many bytes entries have as a leaf, by the words of chapter 5.
func bytesOf(l []api.Entry) int {
	n := 2
	for i, e := range l {
		same := 0
		for i > 0 && same < min(len(e.Key), len(l[i-1].Key)) && e.Key[same] == l[i-1].Key[same] {
			same++
		}
		n += 6 + len(e.Key) - same + len(e.Value)
	}
	return n
}

// cut is how entries are cut into leaves, by the chapter's words.
func cut(size int, l []api.Entry, fill int) []int {
	var counts []int
	for len(l) > 0 {
		n := 1
		for n < len(l) && bytesOf(l[:n+1]) <= (size-32)*fill/100 {
			n++
		}
		counts = append(counts, n)
		l = l[n:]
	}
	return counts
}

// looked is what there is of a tree, found by the lower layers alone.
type looked struct {
	t       *testing.T
	what    string
	s       *pages.Store
	kind    api.TreeKind
	high    int
	pages   []int // rising
	leaves  []int // how many entries each has
	entries []api.Entry
}

// look goes through a tree, and holds it against the words of chapter 18, and that no message waits.
func look(t *testing.T, what string, s *pages.Store, kind api.TreeKind, root int) *looked {
	t.Helper()
	l := &looked{t: t, what: what, s: s, kind: kind, high: -1}
	l.visit(root, root, api.Range{All: true}, 0)
	slices.Sort(l.pages)
	if len(slices.Compact(slices.Clone(l.pages))) != len(l.pages) {
		t.Fatalf("%s: a page is in the tree twice: %v", what, l.pages)
	}
	if l.high > 0 && 1<<(l.high-1) >= len(l.leaves) {
		t.Fatalf("%s: High is %d, of %d leaves", what, l.high, len(l.leaves))
	}
	if len(l.pages) > 2*len(l.leaves) {
		t.Fatalf("%s: %d pages, of %d leaves", what, len(l.pages), len(l.leaves))
	}
	return l
}

// has is whether a range has a key, by the library's order.
func has(r api.Range, key []byte) bool {
	return bytes.Compare(key, r.Lo) >= 0 && (r.All || bytes.Compare(key, r.Hi) < 0)
}

func (l *looked) visit(n int, root int, r api.Range, depth int) {
	l.t.Helper()
	l.pages = append(l.pages, n)
	kind, payload, err := l.s.Get(n)
	if err != api.OK {
		l.t.Fatalf("%s: the page %d: %v", l.what, n, err)
	}
	if kind == api.Leaf {
		l.leaf(n, root, payload, r, depth)
		return
	}
	k := l.kids(n, kind, payload)
	for _, key := range k.Keys {
		if !has(r, key) || bytes.Equal(key, r.Lo) {
			l.t.Fatalf("%s: the page %d has the key %x, its Span is %v", l.what, n, key, r)
		}
	}
	for i, m := range k.Pages {
		within := r
		if i > 0 {
			within.Lo = k.Keys[i-1]
		}
		if i < len(k.Keys) {
			within.Hi, within.All = k.Keys[i], false
		}
		l.visit(m, root, within, depth+1)
	}
}

// kids are the children of an inner page, which must be of the tree's kind.
func (l *looked) kids(n int, kind api.PageKind, payload []byte) api.Kids {
	l.t.Helper()
	if l.kind == api.Eager && kind == api.Branch {
		k, err := branch.Decode(l.s.Size(), payload)
		if err != api.OK {
			l.t.Fatalf("%s: the branch %d: %v", l.what, n, err)
		}
		return k
	}
	if l.kind == api.Lazy && kind == api.Node {
		b, err := node.Decode(l.s.Size(), payload)
		if err != api.OK || len(b.Msgs) != 0 {
			l.t.Fatalf("%s: the node %d: %v, with %d messages", l.what, n, err, len(b.Msgs))
		}
		return b.Kids
	}
	l.t.Fatalf("%s: the page %d is of the kind %d", l.what, n, kind)
	return api.Kids{}
}

func (l *looked) leaf(n int, root int, payload []byte, r api.Range, depth int) {
	l.t.Helper()
	entries, err := leaf.Decode(l.s.Size(), payload)
	if err != api.OK {
		l.t.Fatalf("%s: the leaf %d: %v", l.what, n, err)
	}
	if l.high < 0 {
		l.high = depth
	}
	if l.high != depth || len(entries) == 0 && n != root {
		l.t.Fatalf("%s: the leaf %d has %d entries, at the depth %d, not %d", l.what, n, len(entries), depth, l.high)
	}
	for _, e := range entries {
		if !has(r, e.Key) {
			l.t.Fatalf("%s: the leaf %d has the key %x, its Span is %v", l.what, n, e.Key, r)
		}
	}
	l.leaves = append(l.leaves, len(entries))
	l.entries = append(l.entries, entries...)
}

// made makes a tree of entries, and holds it against all that is promised of it; others are pages that are not the tree's.
func made(t *testing.T, what string, m maker, s *pages.Store, l []api.Entry, fill int, others ...int) *looked {
	t.Helper()
	what = fmt.Sprintf("%s: %s of %d entries, fill %d, size %d", what, m.name, len(l), fill, s.Size())
	n, err := m.make(s, merge.Of(l), fill)
	if n != len(l) || err != nil {
		t.Fatalf("%s: %d, %v", what, n, err)
	}
	tree := look(t, what, s, m.kind, s.Root())
	if got, want := shown(tree.entries), shown(l); got != want {
		t.Fatalf("%s: the leaves have %s, want %s", what, got, want)
	}
	counts := cut(s.Size(), l, fill)
	if len(l) == 0 {
		counts = []int{0}
	}
	if !slices.Equal(tree.leaves, counts) {
		t.Fatalf("%s: the leaves have %v entries, want %v", what, tree.leaves, counts)
	}
	if all := slices.Sorted(slices.Values(slices.Concat(tree.pages, others))); !slices.Equal(all, s.Live()) {
		t.Fatalf("%s: the tree's pages and others are %v, there are %v", what, all, s.Live())
	}
	return tree
}

// watched is a telling that says how it is asked. It writes over what it told, as soon as it is asked for more.
type watched struct {
	list  []api.Entry
	begun int // how often it was ranged over
	asked int // for how many entries, the end counts as one
	over  int // how many of its loops have ended
}

func (w *watched) seq(yield func([]byte, []byte) bool) {
	w.begun++
	defer func() { w.over++ }()
	key, value := make([]byte, 0, 1000), make([]byte, 0, 2000)
	for _, e := range w.list {
		w.asked++
		spoil(key, '!')
		spoil(value, '?')
		key, value = append(key[:0], e.Key...), append(value[:0], e.Value...)
		if !yield(key, value) {
			spoil(key, '!')
			spoil(value, '?')
			return
		}
	}
	w.asked++
}

// spoil writes into bytes and into their spare room.
func spoil(b []byte, by byte) {
	b = b[:cap(b)]
	for i := range b {
		b[i] = by
	}
}

// dice are numbers that look thrown and are the same in every run.
type dice uint64

func (d *dice) below(n int) int {
	*d += 0x9e3779b97f4a7c15
	x := uint64(*d)
	x = (x ^ x>>30) * 0xbf58476d1ce4e5b9
	x = (x ^ x>>27) * 0x94d049bb133111eb
	return int((x ^ x>>31) % uint64(n))
}

// text is so many bytes of few kinds.
func (d *dice) text(long int) string {
	const letters = "\x00a\x80\xff"
	var b strings.Builder
	for range long {
		b.WriteByte(letters[d.below(len(letters))])
	}
	return b.String()
}

// key is one of those that may be, of three sorts: short; as long as may be, and begun like others; of any length.
func (d *dice) key(size int) string {
	most := size / 16
	switch d.below(3) {
	case 0:
		return d.text(1 + d.below(5))
	case 1:
		return strings.Repeat("a", most-5) + d.text(5)
	}
	return d.text(5) + strings.Repeat("b", d.below(most-4))
}

// value is one that may be: often none, or the longest.
func (d *dice) value(size int) string {
	switch d.below(4) {
	case 0:
		return ""
	case 1:
		return d.text(size / 4)
	}
	return d.text(d.below(size/4 + 1))
}

// rising are at most so many entries that rise.
func (d *dice) rising(size int, most int) []api.Entry {
	var l []api.Entry
	for range most {
		l = append(l, entry(d.key(size), d.value(size)))
	}
	slices.SortFunc(l, func(a api.Entry, b api.Entry) int { return bytes.Compare(a.Key, b.Key) })
	return slices.CompactFunc(l, func(a api.Entry, b api.Entry) bool { return bytes.Equal(a.Key, b.Key) })
}

// fill is one of those that may be, often the least or the most.
func (d *dice) fill() int {
	return []int{50, 100, 50 + d.below(51)}[d.below(3)]
}
