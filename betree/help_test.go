package betree_test

import (
	"bytes"
	"cmp"
	"errors"
	"fmt"
	"maps"
	"slices"
	"strings"
	"testing"

	"banyan/api"
	"banyan/betree"
	"banyan/dev"
	"banyan/leaf"
	"banyan/node"
	"banyan/pages"
)

// sizes are all that a block may have.
var sizes = []int{512, 1024, 2048, 4096}

// policies are some of each kind.
func policies() []api.Policy {
	return []api.Policy{
		{Kind: api.Greedy},
		{Kind: api.Round},
		{Kind: api.Compact},
		{Kind: api.Script},
		{Kind: api.Script, Picks: []int{3, -1, 7, 0, 2, -5}},
	}
}

// format is a new store on a new device.
func format(t *testing.T, size int, blocks int) (*pages.Store, *dev.Dev) {
	t.Helper()
	d, err := dev.New(size, blocks)
	if err != api.OK {
		t.Fatalf("dev.New: %v", err)
	}
	s, err := pages.Format(d)
	if err != api.OK {
		t.Fatalf("Format: %v", err)
	}
	return s, d
}

// opened is the tree of a store.
func opened(t *testing.T, s *pages.Store, p api.Policy, stamp uint64) *betree.Tree {
	t.Helper()
	b, err := betree.Open(s, p, stamp)
	if err != api.OK || b == nil {
		t.Fatalf("Open: %v", err)
	}
	return b
}

// span is the range from lo up to hi, from that of All.
func span(lo string, hi string) api.Range { return api.Range{Lo: []byte(lo), Hi: []byte(hi)} }
func from(lo string) api.Range            { return api.Range{Lo: []byte(lo), All: true} }

// has is whether a range has a key, by the library's order.
func has(r api.Range, key string) bool {
	return key >= string(r.Lo) && (r.All || key < string(r.Hi))
}

// world is a map, by the chapter's words.
type world map[string]string

// keys are those of a range, rising.
func (w world) keys(r api.Range) []string {
	keys := slices.Sorted(maps.Keys(w))
	return slices.DeleteFunc(keys, func(key string) bool { return !has(r, key) })
}

// show writes the entries of a range so that they can be told apart.
func (w world) show(r api.Range) string {
	var b strings.Builder
	for _, key := range w.keys(r) {
		fmt.Fprintf(&b, "%x=%x ", key, w[key])
	}
	return b.String()
}

// do does to the map what a message says.
func (w world) do(m api.Msg) {
	switch m.Kind {
	case api.Put:
		w[string(m.Lo)] = string(m.Value)
	case api.Del:
		delete(w, string(m.Lo))
	case api.DelRange:
		for _, key := range w.keys(span(string(m.Lo), string(m.Hi))) {
			delete(w, key)
		}
	}
}

// told is what Scan tells, and the error by which it ends.
func told(b *betree.Tree, r api.Range) (string, error) {
	var l strings.Builder
	wrong := error(api.ErrArg)
	for key, value := range b.Scan(r, &wrong) {
		fmt.Fprintf(&l, "%x=%x ", key, value)
	}
	return l.String(), wrong
}

// tells holds what Scan tells of a range against a map.
func tells(t *testing.T, what string, b *betree.Tree, w world, r api.Range) {
	t.Helper()
	got, err := told(b, r)
	if want := w.show(r); got != want || err != nil {
		t.Fatalf("%s: Scan of %v: %.2000s, %v, want %.2000s", what, r, got, err, want)
	}
}

// gets holds what Get tells of a key against a map.
func gets(t *testing.T, what string, b *betree.Tree, w world, key string) {
	t.Helper()
	value, there, err := b.Get([]byte(key))
	want, is := w[key]
	if string(value) != want || there != is || err != nil {
		t.Fatalf("%s: Get of %x: %x, %v, %v, want %x, %v", what, key, value, there, err, want, is)
	}
}

// tellsAll holds all that a tree tells against a map.
func tellsAll(t *testing.T, what string, b *betree.Tree, w world) {
	t.Helper()
	tells(t, what, b, w, api.Range{All: true})
	for key := range w {
		gets(t, what, b, w, key)
	}
}

// looked is what there is of a tree, found by the lower layers alone.
type looked struct {
	t       *testing.T
	what    string
	s       *pages.Store
	high    int
	pages   []int // rising
	leaves  int
	entries int // of the leaves
	world   world
	msgs    []api.Msg
}

// look goes through the tree of a store, and holds it against the words of chapter 18.
func look(t *testing.T, what string, s *pages.Store, stamp uint64) *looked {
	t.Helper()
	l := &looked{t: t, what: what, s: s, high: -1, world: world{}}
	l.visit(s.Root(), api.Range{All: true}, 0, nil)
	slices.Sort(l.pages)
	if len(slices.Compact(slices.Clone(l.pages))) != len(l.pages) {
		t.Fatalf("%s: a page is in the tree twice: %v", what, l.pages)
	}
	l.entries = len(l.world)
	if 1<<l.high > max(1, l.entries) {
		t.Fatalf("%s: High is %d, of %d entries", what, l.high, l.entries)
	}
	// The map is that of the leaves, with all messages done in the order of stamps.
	slices.SortStableFunc(l.msgs, func(a api.Msg, b api.Msg) int { return cmp.Compare(a.Stamp, b.Stamp) })
	for _, m := range l.msgs {
		if m.Stamp >= stamp {
			t.Fatalf("%s: a message has the stamp %d, the next one is %d", what, m.Stamp, stamp)
		}
		l.world.do(m)
	}
	return l
}

func (l *looked) visit(n int, r api.Range, depth int, above []api.Msg) {
	l.t.Helper()
	l.pages = append(l.pages, n)
	kind, payload, err := l.s.Get(n)
	if err != api.OK {
		l.t.Fatalf("%s: the page %d: %v", l.what, n, err)
	}
	switch kind {
	case api.Leaf:
		l.leaf(n, payload, r, depth)
	case api.Node:
		b, err := node.Decode(l.s.Size(), payload)
		if err != api.OK {
			l.t.Fatalf("%s: the node %d: %v", l.what, n, err)
		}
		l.node(n, b, r, above)
		for i, m := range b.Kids.Pages {
			l.visit(m, within(b.Kids, r, i), depth+1, append(slices.Clip(above), b.Msgs...))
		}
	default:
		l.t.Fatalf("%s: the page %d is of the kind %d", l.what, n, kind)
	}
}

// within is the keys of a child.
func within(k api.Kids, r api.Range, i int) api.Range {
	if i > 0 {
		r.Lo = k.Keys[i-1]
	}
	if i < len(k.Keys) {
		r.Hi, r.All = k.Keys[i], false
	}
	return r
}

// node holds a node's keys and messages against its Span and the messages above.
func (l *looked) node(n int, b api.Buffered, r api.Range, above []api.Msg) {
	l.t.Helper()
	for _, key := range b.Kids.Keys {
		if !has(r, string(key)) || bytes.Equal(key, r.Lo) {
			l.t.Fatalf("%s: the node %d has the key %x, its Span is %v", l.what, n, key, r)
		}
	}
	for _, m := range b.Msgs {
		if !has(r, string(m.Lo)) || m.Kind == api.DelRange && !r.All && bytes.Compare(m.Hi, r.Hi) > 0 {
			l.t.Fatalf("%s: the node %d has the message %v, its Span is %v", l.what, n, m, r)
		}
		for _, o := range above {
			if common(m, o) && o.Stamp <= m.Stamp {
				l.t.Fatalf("%s: the node %d has the message %v, above it is %v", l.what, n, m, o)
			}
		}
	}
	l.msgs = append(l.msgs, b.Msgs...)
}

// common is whether two messages have a key in common.
func common(a api.Msg, b api.Msg) bool {
	x, y := said(a), said(b)
	lo := max(string(x.Lo), string(y.Lo))
	return has(x, lo) && has(y, lo)
}

// said is the keys of which a message says something.
func said(m api.Msg) api.Range {
	if m.Kind == api.DelRange {
		return api.Range{Lo: m.Lo, Hi: m.Hi}
	}
	return span(string(m.Lo), string(m.Lo)+"\x00")
}

func (l *looked) leaf(n int, payload []byte, r api.Range, depth int) {
	l.t.Helper()
	entries, err := leaf.Decode(l.s.Size(), payload)
	if err != api.OK {
		l.t.Fatalf("%s: the leaf %d: %v", l.what, n, err)
	}
	if l.high < 0 {
		l.high = depth
	}
	if l.high != depth || len(entries) == 0 && n != l.s.Root() {
		l.t.Fatalf("%s: the leaf %d has %d entries, at the depth %d, not %d", l.what, n, len(entries), depth, l.high)
	}
	l.leaves++
	for _, e := range entries {
		if !has(r, string(e.Key)) {
			l.t.Fatalf("%s: the leaf %d has the key %x, its Span is %v", l.what, n, e.Key, r)
		}
		l.world[string(e.Key)] = string(e.Value)
	}
}

// sound holds a tree against its shape, the pages that there are, and a map.
func sound(t *testing.T, what string, b *betree.Tree, s *pages.Store, w world, others ...int) *looked {
	t.Helper()
	l := look(t, what, s, b.Stamp())
	if high, err := b.High(); high != l.high || err != nil {
		t.Fatalf("%s: High: %d, %v, want %d", what, high, err, l.high)
	}
	all := slices.Sorted(slices.Values(slices.Concat(l.pages, others)))
	if !slices.Equal(all, s.Live()) {
		t.Fatalf("%s: the tree's pages and others are %d, there are %d", what, len(all), len(s.Live()))
	}
	if !maps.Equal(l.world, w) {
		t.Fatalf("%s: the pages say %.2000s, want %.2000s", what, l.world.show(from("")), w.show(from("")))
	}
	return l
}

// trial is a tree, and what it must tell.
type trial struct {
	t         *testing.T
	d         *dev.Dev
	s         *pages.Store
	b         *betree.Tree
	p         api.Policy
	now, last world // the present map, the committed one
	stamp     uint64
	others    []int // pages that are not the tree's
}

// begun is a new tree, committed.
func begun(t *testing.T, size int, blocks int, p api.Policy) *trial {
	t.Helper()
	s, d := format(t, size, blocks)
	b, err := betree.New(s, p)
	if err != api.OK || b == nil {
		t.Fatalf("New: %v", err)
	}
	x := &trial{t: t, d: d, s: s, b: b, p: p, now: world{}, stamp: 1}
	x.commit()
	return x
}

// full tells whether an answer is ErrFull, which it may be only where little is left; any other error fails. The stamp is as it must be.
func (x *trial) full(what string, err error, stamps uint64) bool {
	x.t.Helper()
	if err == nil {
		x.stamp += stamps
	}
	if x.b.Stamp() != x.stamp {
		x.t.Fatalf("%s: Stamp: %d, want %d", what, x.b.Stamp(), x.stamp)
	}
	if err == nil {
		return false
	}
	high, _ := x.b.High()
	if err != error(api.ErrFull) || x.s.Left() >= 8*(high+2) {
		x.t.Fatalf("%s: %v, where %d are left, High %d", what, err, x.s.Left(), high)
	}
	return true
}

// put gives a key a value, if there is room.
func (x *trial) put(key string, value string) bool {
	x.t.Helper()
	held := x.waits(api.Msg{Stamp: x.stamp, Kind: api.Put, Lo: []byte(key), Value: []byte(value)})
	if x.full("Put", x.b.Put([]byte(key), []byte(value)), 1) {
		return false
	}
	held()
	x.now[key] = value
	return true
}

// del takes a key away, if there is room.
func (x *trial) del(key string) bool {
	x.t.Helper()
	held := x.waits(api.Msg{Stamp: x.stamp, Kind: api.Del, Lo: []byte(key)})
	if x.full("Delete", x.b.Delete([]byte(key)), 1) {
		return false
	}
	held()
	delete(x.now, key)
	return true
}

// stamps is how many stamps a DeleteRange takes, by the chapter's words: none, if no key that may be is in the range; two, if it is of All and its Lo is below the greatest key that may be.
func stamps(size int, r api.Range) uint64 {
	lo, greatest := string(r.Lo), strings.Repeat("\xff", size/16)
	switch {
	case r.All && lo < greatest:
		return 2
	case has(r, max(lo, "\x00")):
		return 1
	}
	return 0
}

// cut takes the keys of a range away, if there is room.
func (x *trial) cut(r api.Range) bool {
	x.t.Helper()
	if x.full("DeleteRange", x.b.DeleteRange(r), stamps(x.s.Size(), r)) {
		return false
	}
	for _, key := range x.now.keys(r) {
		delete(x.now, key)
	}
	return true
}

// flush brings all messages down, if there is room.
func (x *trial) flush() bool {
	x.t.Helper()
	if x.full("Flush", x.b.Flush(), 0) {
		return false
	}
	if l := look(x.t, "flushed", x.s, x.stamp); len(l.msgs) != 0 {
		x.t.Fatalf("Flush: %d messages wait", len(l.msgs))
	}
	return true
}

// commit makes what there is last.
func (x *trial) commit() {
	x.t.Helper()
	if err := x.s.Commit(); err != api.OK {
		x.t.Fatalf("Commit: %v", err)
	}
	x.last = maps.Clone(x.now)
}

// abort takes back what was done since.
func (x *trial) abort() {
	x.t.Helper()
	if err := x.s.Abort(); err != api.OK {
		x.t.Fatalf("Abort: %v", err)
	}
	x.b, x.now = opened(x.t, x.s, x.p, x.stamp), maps.Clone(x.last)
}

// reopen lets the power go, and opens all anew.
func (x *trial) reopen() {
	x.t.Helper()
	x.d.Restart(nil)
	s, _, err := pages.Open(x.d)
	if err != api.OK {
		x.t.Fatalf("Open: %v", err)
	}
	x.s, x.b, x.now = s, opened(x.t, s, x.p, x.stamp), maps.Clone(x.last)
}

// sound holds the tree against its shape, and its map.
func (x *trial) sound(what string) *looked {
	x.t.Helper()
	return sound(x.t, what, x.b, x.s, x.now, x.others...)
}

// fill makes pages that are no tree's, until so many are left.
func (x *trial) fill(left int) {
	x.t.Helper()
	for x.s.Left() > left {
		n, err := x.s.New(api.Other, nil)
		if err != api.OK {
			x.t.Fatalf("a page of others: %v", err)
		}
		x.others = append(x.others, n)
	}
}

// wood is a tree by hand: entries of a leaf; or others, the keys between them, and messages; or, of another kind, any bytes.
type wood struct {
	leaf     []api.Entry
	below    []wood
	keys     []string
	msgs     []api.Msg
	kind     api.PageKind // of any bytes
	bytes    string
	number   int // of a page that need not be there
	isNumber bool
}

// twig is a leaf of these keys, each with itself as its value.
func twig(keys ...string) wood {
	var w wood
	for _, key := range keys {
		w.leaf = append(w.leaf, entry(key, key))
	}
	return w
}

// fat is a leaf of these keys, each with a value as long as it may be.
func fat(keys ...string) wood {
	w := twig(keys...)
	for i := range w.leaf {
		w.leaf[i].Value = bytes.Repeat([]byte{'v'}, 128)
	}
	return w
}

// fork is a node; between its parts stand keys.
func fork(keys string, below ...wood) wood { return wood{below: below, keys: strings.Fields(keys)} }

// with is a node with messages, which are written in their order, one behind the other: `5+a=x` puts, `5-a` deletes, `5-a:c` deletes a range.
func (w wood) with(said string) wood {
	for _, one := range strings.Fields(said) {
		var m api.Msg
		at := strings.IndexAny(one, "+-")
		fmt.Sscan(one[:at], &m.Stamp)
		what := one[at+1:]
		switch {
		case one[at] == '+':
			m.Kind = api.Put
			key, value, _ := strings.Cut(what, "=")
			m.Lo, m.Value = []byte(key), []byte(value)
		case strings.Contains(what, ":"):
			m.Kind = api.DelRange
			lo, hi, _ := strings.Cut(what, ":")
			m.Lo, m.Hi = []byte(lo), []byte(hi)
		default:
			m.Kind = api.Del
			m.Lo = []byte(what)
		}
		w.msgs = append(slices.Clip(w.msgs), m)
	}
	return w
}

// other is a page of any kind and bytes.
func other(kind api.PageKind, b string) wood { return wood{kind: kind, bytes: b} }

// number is a page that need not be there.
func number(n int) wood { return wood{number: n, isNumber: true} }

// planted makes the pages of a tree by hand; their numbers, from the root on, each ahead of those beneath it.
func planted(t *testing.T, s *pages.Store, w wood) []int {
	t.Helper()
	numbers := plant(t, s, w)
	if err := s.SetRoot(numbers[0]); err != api.OK {
		t.Fatalf("SetRoot: %v", err)
	}
	return numbers
}

func plant(t *testing.T, s *pages.Store, w wood) []int {
	t.Helper()
	if w.isNumber {
		return []int{w.number}
	}
	kind, payload, err := api.Leaf, []byte(w.bytes), api.OK
	var beneath []int
	switch {
	case w.kind != 0:
		kind = w.kind
	case len(w.below) > 0:
		kind = api.Node
		b := api.Buffered{Msgs: w.msgs}
		for _, one := range w.below {
			numbers := plant(t, s, one)
			b.Kids.Pages = append(b.Kids.Pages, numbers[0])
			beneath = append(beneath, numbers...)
		}
		for _, key := range w.keys {
			b.Kids.Keys = append(b.Kids.Keys, []byte(key))
		}
		payload, err = node.Encode(s.Size(), b)
	default:
		payload, err = leaf.Encode(s.Size(), w.leaf)
	}
	if err != api.OK {
		t.Fatalf("a tree by hand: %v", err)
	}
	n, err := s.New(kind, payload)
	if err != api.OK {
		t.Fatalf("a page by hand: %v", err)
	}
	return append([]int{n}, beneath...)
}

// separators are all keys between parts of a tree by hand, and those that its messages name.
func (w wood) separators() []string {
	all := slices.Clone(w.keys)
	for _, m := range w.msgs {
		all = append(all, string(m.Lo))
		if m.Kind == api.DelRange {
			all = append(all, string(m.Hi))
		}
	}
	for _, one := range w.below {
		all = append(all, one.separators()...)
	}
	return all
}

// grown is a tree by hand in a store of its own, committed or not; the next stamp is 2^40.
func grown(t *testing.T, size int, blocks int, w wood, p api.Policy, committed bool) *trial {
	t.Helper()
	s, d := format(t, size, blocks)
	planted(t, s, w)
	const stamp = 1 << 40
	x := &trial{t: t, d: d, s: s, p: p, b: opened(t, s, p, stamp), stamp: stamp}
	x.now = look(t, "by hand", s, stamp).world
	if committed {
		x.commit()
	}
	return x
}

// want holds an answered error against the one that is asked: by == , for no error is nil as an error.
func want(t *testing.T, what string, got error, asked error) {
	t.Helper()
	if got != asked {
		t.Errorf("%s: %v, want %v", what, got, asked)
	}
}

// lost tells whether an error is one of a page; the number of a page 0: of whichever.
func lost(err error, number int, why api.Errno) bool {
	l, ok := err.(*api.Lost)
	return ok && l != nil && (number == 0 || l.Page == number) && (why == api.OK || l.Err == why && errors.Is(err, why))
}

// entry is a key and its value.
func entry(key string, value string) api.Entry {
	return api.Entry{Key: []byte(key), Value: []byte(value)}
}

// dice are numbers that look thrown and are the same in every run.
type dice uint64

func (d *dice) below(n int) int {
	*d += 0x9e3779b97f4a7c15
	x := uint64(*d)
	x = (x ^ x>>30) * 0xbf58476d1ce4e5b9
	x = (x ^ x>>27) * 0x94d049bb133111eb
	return int((x ^ x>>31) % uint64(n))
}

// text is so many bytes of few kinds.
func (d *dice) text(long int) string {
	const letters = "\x00a\x80\xff"
	var b strings.Builder
	for range long {
		b.WriteByte(letters[d.below(len(letters))])
	}
	return b.String()
}

// key is one of those that may be, of three sorts: short; long, and begun like others; of any length.
func (d *dice) key(size int) string {
	most := size / 16
	switch d.below(3) {
	case 0:
		return d.text(1 + d.below(4))
	case 1:
		return strings.Repeat("a", most-4) + d.text(1+d.below(4))
	}
	return d.text(4) + strings.Repeat("b", d.below(most-3))
}

// value is one that may be: often none, or the longest.
func (d *dice) value(size int) string {
	switch d.below(4) {
	case 0:
		return ""
	case 1:
		return d.text(size / 4)
	}
	return d.text(d.below(size/4 + 1))
}

// span is a range, perhaps an empty one.
func (d *dice) span(size int) api.Range {
	return api.Range{Lo: []byte(d.key(size)), Hi: []byte(d.key(size)), All: d.below(8) == 0}
}

// one is one of a list.
func one[T any](d *dice, list []T) T { return list[d.below(len(list))] }

// eachNode tells all nodes of a tree, and how far they are from the root.
func (x *trial) eachNode(tell func(depth int, b api.Buffered)) {
	x.t.Helper()
	var visit func(n int, depth int)
	visit = func(n int, depth int) {
		kind, payload, _ := x.s.Get(n)
		if kind != api.Node {
			return
		}
		b, _ := node.Decode(x.s.Size(), payload)
		tell(depth, b)
		for _, m := range b.Kids.Pages {
			visit(m, depth+1)
		}
	}
	visit(x.s.Root(), 0)
}
