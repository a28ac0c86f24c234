package betree

import (
	"bytes"
	"slices"

	"banyan/api"
	"banyan/leaf"
	"banyan/merge"
	"banyan/msg"
	"banyan/node"
)

// page is a page of the tree, as it was read, or as a change makes it.
type page struct {
	number  int       // 0: it has none yet
	payload []byte    // as it was read
	span    api.Range // the keys that it has
	leaf    bool
	entries []api.Entry // of a leaf
	kids    []*kid      // of a node
	touched bool        // it lies on the way of a change
	changed bool
}

// kid is a child of a node, with the messages that wait there for it.
type kid struct {
	lo     []byte // the key ahead of it; that of a first child is not looked at
	number int
	page   *page // nil: a change has not come to it
	msgs   []api.Msg
}

// root reads the root.
func (t *Tree) root() *page { return t.read(t.store.Root(), api.Range{All: true}) }

// child reads the i-th child of a node.
func (t *Tree) child(p *page, i int) *page { return t.read(p.kids[i].number, p.spanOf(i)) }

// read reads a page, and gives it up, if it is not as it must be.
func (t *Tree) read(n int, span api.Range) *page {
	kind, payload, err := t.store.Get(n)
	mustPage(err == api.OK, n, err)
	p := &page{number: n, payload: payload, span: span, leaf: kind == api.Leaf}
	switch kind {
	case api.Leaf:
		p.entries, err = leaf.Decode(t.store.Size(), payload)
	case api.Node:
		var b api.Buffered
		b, err = node.Decode(t.store.Size(), payload)
		p.kids = kidsOf(b)
	default:
		err = api.ErrTreeKind
	}
	mustPage(err == api.OK, n, err)
	mustPage(p.shaped(n == t.store.Root()), n, api.ErrTreeShape)
	return p
}

// kidsOf is a node's children.
func kidsOf(b api.Buffered) []*kid {
	var kids []*kid
	for i, n := range b.Kids.Pages {
		k := &kid{number: n}
		if i > 0 {
			k.lo = b.Kids.Keys[i-1]
		}
		kids = append(kids, k)
	}
	for _, m := range b.Msgs {
		k := kids[childOf(kids, m.Lo)]
		k.msgs = append(k.msgs, m)
	}
	return kids
}

// buffered is a node as its payload has it.
func (p *page) buffered() api.Buffered {
	var b api.Buffered
	for i, k := range p.kids {
		b.Kids.Pages = append(b.Kids.Pages, k.number)
		if i > 0 {
			b.Kids.Keys = append(b.Kids.Keys, k.lo)
		}
		b.Msgs = append(b.Msgs, k.msgs...)
	}
	return b
}

// shaped tells whether a page that was read has no keys but its own: as they rise, what comes first and what comes last says it of all.
func (p *page) shaped(root bool) bool {
	if !p.leaf {
		first, last := p.kids[0], p.kids[len(p.kids)-1]
		return bytes.Compare(p.span.Lo, p.kids[1].lo) < 0 && below(last.lo, p.span) && p.has(first.msgs) && p.has(last.msgs)
	}
	if len(p.entries) == 0 {
		return root
	}
	return bytes.Compare(p.span.Lo, p.entries[0].Key) <= 0 && below(p.entries[len(p.entries)-1].Key, p.span)
}

// has tells whether messages say something of the page's keys alone.
func (p *page) has(l []api.Msg) bool {
	return !slices.ContainsFunc(l, func(m api.Msg) bool { return !within(m, p.span) })
}

// within tells whether a message says something of no keys but those of a range.
func within(m api.Msg, r api.Range) bool {
	if m.Kind == api.DelRange {
		return inside(api.Range{Lo: m.Lo, Hi: m.Hi}, r)
	}
	return has(r, m.Lo)
}

// childOf is the number of the child that has a key.
func childOf(kids []*kid, key []byte) int {
	n, just := slices.BinarySearchFunc(kids[1:], key, func(k *kid, key []byte) int { return bytes.Compare(k.lo, key) })
	if just {
		n++
	}
	return n
}

// lastOf is the number of the last child that has keys of a range.
func lastOf(kids []*kid, r api.Range) int {
	if r.All {
		return len(kids) - 1
	}
	n, _ := slices.BinarySearchFunc(kids[1:], r.Hi, func(k *kid, key []byte) int { return bytes.Compare(k.lo, key) })
	return n
}

// spanOf is the keys that the i-th child of a node has.
func (p *page) spanOf(i int) api.Range {
	span := p.span
	if i > 0 {
		span.Lo = p.kids[i].lo
	}
	if i+1 < len(p.kids) {
		span.Hi, span.All = p.kids[i+1].lo, false
	}
	return span
}

// find tells a key's value, and whether it is there: what waits nearest to the root decides.
func (t *Tree) find(key []byte) ([]byte, bool) {
	p := t.root()
	for !p.leaf {
		i := childOf(p.kids, key)
		if said, there, value := msg.Get(p.kids[i].msgs, key); said {
			return value, there
		}
		p = t.child(p, i)
	}
	at, there := leaf.Find(p.entries, key)
	if !there {
		return nil, false
	}
	return p.entries[at].Value, true
}

// high is how many levels there are above the leaves.
func (t *Tree) high() int {
	n := 0
	for p := t.root(); !p.leaf; p = t.child(p, 0) {
		n++
	}
	return n
}

// beneath is the numbers of a page and of all that are beneath it.
func (t *Tree) beneath(p *page) []int {
	numbers := []int{p.number}
	for i := range p.kids {
		numbers = append(numbers, t.beneath(t.child(p, i))...)
	}
	return numbers
}

// walk goes through the leaves that have keys of a range.
type walk struct {
	tree  *Tree
	r     api.Range
	begun bool
	path  []*visit // from the root down
}

// visit is a node that is being gone through: its children from one on, up to another, are to be read yet.
type visit struct {
	*page
	from, to int
	above    []api.Msg // what waits above it, of its keys
}

// next tells the next entries of the range: those of a leaf that has some; none, if there are no more, or a page cannot be read.
func (w *walk) next() (l []api.Entry, err error) {
	err = attempt(func() {
		if !w.begun {
			w.begun = true
			l = w.begin()
		}
		for len(l) == 0 && len(w.path) > 0 {
			l = w.step(w.path[len(w.path)-1])
		}
	})
	return l, err
}

// begin reads the root.
func (w *walk) begin() []api.Entry {
	w.tree.mustRoot()
	if empty(w.r) {
		return nil
	}
	return w.enter(w.tree.root(), nil)
}

// step reads the next child of a node, which is left, if there is none.
func (w *walk) step(v *visit) []api.Entry {
	if v.from == v.to {
		w.path = w.path[:len(w.path)-1]
		return nil
	}
	i := v.from
	v.from++
	// What waits further above is younger.
	waiting := slices.Concat(v.kids[i].msgs, msg.Within(v.above, v.spanOf(i)))
	return w.enter(w.tree.child(v.page, i), waiting)
}

// enter tells the entries of a leaf, as the messages leave them that wait above it; the children of a node are to be gone through then.
func (w *walk) enter(p *page, waiting []api.Msg) []api.Entry {
	if p.leaf {
		return merge.All(merge.Within(merge.With(merge.Of(p.entries), waiting), w.r), -1)
	}
	w.path = append(w.path, &visit{page: p, from: childOf(p.kids, w.r.Lo), to: lastOf(p.kids, w.r) + 1, above: waiting})
	return nil
}
