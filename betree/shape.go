package betree

import (
	"slices"
	"sort"

	"banyan/api"
	"banyan/leaf"
	"banyan/msg"
)

// A node's keys have at most half of its room, and the messages that this
// layer puts into it the other half at most. So whatever becomes of its
// children, it can be cut into nodes that may be. Messages come together only
// where nodes are joined, or the root goes: that is done only where half of
// the room is enough for them.

// How many bytes of a node its count of children has, one of these, and the length of a key.
const (
	countBytes  = 2
	childBytes  = 4
	lengthBytes = 2
)

// load is how many bytes children and keys have in a node, and how many the messages.
type load struct {
	keys, msgs int
}

// loadOf is the load of children.
func loadOf(kids []*kid) load {
	l := load{keys: countBytes, msgs: msg.Bytes(nil)}
	for i, k := range kids {
		l.keys += k.keyBytes(i == 0)
		l.msgs += k.msgBytes()
	}
	return l
}

// keyBytes is how many bytes a child has in a node, with the key ahead of it, if it is not the first one.
func (k *kid) keyBytes(first bool) int {
	if first {
		return childBytes
	}
	return childBytes + lengthBytes + len(k.lo)
}

// msgBytes is how many bytes the messages for a child have in a node.
func (k *kid) msgBytes() int { return msg.Bytes(k.msgs) - msg.Bytes(nil) }

// measure is how long a node is; it may be, if that is not above the room.
type measure func(load) int

// lenient is by what a node may be: others than this layer's own ones may have more messages than half of the room.
func lenient(l load) int { return l.keys + max(l.keys, l.msgs) }

// strict is by what a node may be that messages were brought into.
func strict(l load) int { return 2 * max(l.keys, l.msgs) }

// crown brings the whole tree into its shape, from the leaves up.
func (d *draft) crown() {
	for {
		d.mend(d.root)
		if !d.root.leaf && len(d.root.kids) < 2 {
			d.lower()
			continue
		}
		parts := d.apart(d.root, lenient)
		if len(parts) == 1 {
			return
		}
		d.root = &page{span: api.Range{All: true}, kids: parts, touched: true, changed: true}
	}
}

// lower takes a root away that has one child, or none.
func (d *draft) lower() {
	r := d.root
	d.leave(r)
	if len(r.kids) == 0 {
		d.root = &page{span: r.span, leaf: true, changed: true}
		return
	}
	d.root = d.child(r, 0)
	d.root.span = r.span
	switch waiting := r.kids[0].msgs; {
	case d.root.leaf:
		d.root.apply(waiting)
	case len(waiting) > 0:
		mustFit(d.root.pour(waiting, d.tree.room()/2))
	}
}

// mend brings those children of a node into their shape that the change has come to. One that cannot stay as it is stays, if it is the only one: then the node itself cannot.
func (d *draft) mend(x *page) {
	// From the last one on, for what is done to one moves those behind it.
	for i := len(x.kids) - 1; i >= 0; {
		p := x.kids[i].page
		if p == nil || !p.touched {
			i--
			continue
		}
		d.mend(p)
		if p.empty() {
			d.remove(x, i)
			i--
		} else if at, joined := d.join(x, i); joined {
			i = at
		} else {
			d.replace(x, i, lenient)
			i--
		}
	}
}

// empty tells whether nothing is in a page.
func (p *page) empty() bool { return len(p.entries) == 0 && len(p.kids) == 0 }

// thin tells whether so little is in a page that it is better joined with one beside it.
func (d *draft) thin(p *page) bool {
	if p.leaf {
		return leaf.Bytes(p.entries) < d.tree.room()/4
	}
	return loadOf(p.kids).keys < d.tree.room()/8
}

// remove takes a child away in which nothing is left; so nothing may wait for it.
func (d *draft) remove(x *page, i int) {
	mustFit(len(x.kids[i].msgs) == 0)
	d.leave(x.kids[i].page)
	x.kids = slices.Delete(x.kids, i, i+1)
	x.changed = true
}

// join joins a child with one beside it, if it is to be so. It tells the last child that came of both.
func (d *draft) join(x *page, i int) (int, bool) {
	p := x.kids[i].page
	alone := !p.leaf && len(p.kids) == 1
	// What can stay as it is must not leave a node with one child, which could not; a root, whose last child is a leaf, can.
	enough := len(x.kids) > 2 || p.leaf && x == d.root
	if len(x.kids) < 2 || !alone && !(enough && d.thin(p)) {
		return 0, false
	}
	l := max(i-1, 0)
	left, right := x.kids[l], x.kids[l+1]
	a, b := d.beside(x, l), d.beside(x, l+1)
	mustPage(a.leaf == b.leaf, b.number, api.ErrTreeShape)
	if !b.leaf {
		b.kids[0].lo = right.lo
	}
	kids := slices.Concat(a.kids, b.kids)
	msgs, apart := together(left.msgs, right.msgs)
	if !alone && (!apart || !a.leaf && strict(loadOf(kids)) > d.tree.room()) {
		return 0, false
	}
	mustFit(apart)
	a.entries, a.kids, left.msgs = slices.Concat(a.entries, b.entries), kids, msgs
	a.span.Hi, a.span.All = b.span.Hi, b.span.All
	a.touched, a.changed = true, true
	d.leave(b)
	x.kids = slices.Delete(x.kids, l+1, l+2)
	x.changed = true
	return l + d.replace(x, l, strict) - 1, true
}

// replace puts as many children into the place of one as that needs, and tells how many these are.
func (d *draft) replace(x *page, i int, m measure) int {
	k := x.kids[i]
	parts := d.apart(k.page, m)
	if len(parts) == 1 {
		return 1
	}
	parts[0].lo = k.lo
	whole := page{span: api.Range{All: true}, kids: parts}
	for j, part := range parts {
		part.msgs = msg.Within(k.msgs, whole.spanOf(j))
	}
	x.kids = slices.Replace(x.kids, i, i+1, parts...)
	x.changed = true
	return len(parts)
}

// apart cuts a page into as many as it needs, and tells them as children: the first one is the page itself.
func (d *draft) apart(p *page, m measure) []*kid {
	if p.leaf {
		return p.apartLeaf(d.tree.parts(p.entries))
	}
	return p.apartNode(d.tree.groups(p.kids, m))
}

// apartLeaf cuts a leaf into these parts.
func (p *page) apartLeaf(parts [][]api.Entry) []*kid {
	l := p.parting(len(parts))
	for i, entries := range parts {
		l[i].page.entries = entries
		if i > 0 {
			ahead := parts[i-1]
			l[i].lo = between(ahead[len(ahead)-1].Key, entries[0].Key)
		}
	}
	p.border(l)
	return l
}

// apartNode cuts a node into these groups of its children.
func (p *page) apartNode(groups [][]*kid) []*kid {
	l := p.parting(len(groups))
	for i, kids := range groups {
		l[i].page.kids = kids
		l[i].lo = kids[0].lo
	}
	p.border(l)
	return l
}

// parting is a page as so many: itself, and others that have nothing yet.
func (p *page) parting(n int) []*kid {
	l := []*kid{{number: p.number, page: p}}
	for range n - 1 {
		p.changed = true
		l = append(l, &kid{page: &page{span: p.span, leaf: p.leaf, touched: true, changed: true}})
	}
	return l
}

// border says which keys each part of a page has.
func (p *page) border(l []*kid) {
	whole := page{span: p.span, kids: l}
	for i, k := range l {
		k.page.span = whole.spanOf(i)
	}
}

// parts cuts entries into as many leaves as they need: full ones, and two that are alike at the end.
func (t *Tree) parts(l []api.Entry) [][]api.Entry {
	var parts [][]api.Entry
	for leaf.Bytes(l) > t.room() {
		n, err := leaf.Split(t.store.Size(), l)
		if err == api.OK {
			return append(parts, l[:n], l[n:])
		}
		n = sort.Search(len(l), func(i int) bool { return leaf.Bytes(l[:i+1]) > t.room() })
		parts = append(parts, l[:n])
		l = l[n:]
	}
	return append(parts, l)
}

// groups cuts children into as many nodes as they need.
func (t *Tree) groups(kids []*kid, m measure) [][]*kid {
	if m(loadOf(kids)) <= t.room() {
		return [][]*kid{kids}
	}
	mustFit(len(kids) >= 4)
	n := half(kids, m)
	return append(t.groups(kids[:n:n], m), t.groups(slices.Clip(kids[n:]), m)...)
}

// half is how many children, of four at least, are to go into the first one of two nodes, so that the longer one is as short as it can be.
func half(kids []*kid, m measure) int {
	whole := loadOf(kids)
	first := load{keys: countBytes, msgs: msg.Bytes(nil)}
	best, least := 0, 0
	for i, k := range kids[:len(kids)-2] {
		first.keys += k.keyBytes(i == 0)
		first.msgs += k.msgBytes()
		// The key between both is in neither.
		second := load{keys: whole.keys - first.keys + countBytes - lengthBytes - len(kids[i+1].lo), msgs: whole.msgs - first.msgs + msg.Bytes(nil)}
		if longer := max(m(first), m(second)); i > 0 && (best == 0 || longer < least) {
			best, least = i+1, longer
		}
	}
	return best
}

// between is the shortest key above a that is not above b, which is above a.
func between(a []byte, b []byte) []byte {
	n := 0
	for n < len(a) && a[n] == b[n] {
		n++
	}
	return b[:n+1]
}
