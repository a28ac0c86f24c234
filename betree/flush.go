package betree

import (
	"bytes"
	"slices"

	"banyan/api"
	"banyan/msg"
)

// flush brings all messages down to the leaves.
//
// It is done in two sweeps. In the first one no node is left with one child
// alone: where a leaf would be empty for that, an entry stays in it, and a
// message above it that takes it away. So no nodes are joined while many
// messages wait. In the second one there are only few of these messages left.
func (t *Tree) flush() {
	t.sweep(true)
	t.sweep(false)
}

// sweep goes through all leaves for which messages wait, and does these to each of them.
func (t *Tree) sweep(careful bool) {
	for at, there := t.due(nil); there; {
		at, there = t.sweepOn(at, careful)
	}
}

// sweepOn does all that waits to the leaf of a key, and tells the next key of which a message says something, if there is one.
func (t *Tree) sweepOn(at []byte, careful bool) ([]byte, bool) {
	// A node that is full of messages may have no room for one child more. But it has, where enough of them go at once.
	for leaves, more := 1, true; ; leaves *= 2 {
		d := t.begin()
		d.careful = careful
		done := d.sink(at)
		for n := 1; n < leaves && more; n++ {
			var next []byte
			if next, more = t.dueBehind(done); more {
				done = d.sink(next)
			}
		}
		if roomy(d.crown) {
			d.do(0)
			return t.dueBehind(done)
		}
		must(more, api.ErrTreeShape)
	}
}

// dueBehind tells the least key behind a range of which a message says something; and whether there is one.
func (t *Tree) dueBehind(r api.Range) ([]byte, bool) {
	if r.All {
		return nil, false
	}
	return t.due(r.Hi)
}

// due tells the least key, from one on, of which a message says something; and whether there is one.
func (t *Tree) due(from []byte) ([]byte, bool) { return t.dueIn(t.root(), t.high(), from) }

// dueIn is due, of a page that is so high, and of all that are beneath it: leaves are not read.
func (t *Tree) dueIn(p *page, high int, from []byte) ([]byte, bool) {
	if p.leaf {
		return nil, false
	}
	for i := childOf(p.kids, from); i < len(p.kids); i++ {
		key, there := first(p.kids[i].msgs, from)
		if high > 1 {
			other, is := t.dueIn(t.child(p, i), high-1, from)
			if is && (!there || bytes.Compare(other, key) < 0) {
				key, there = other, true
			}
		}
		if there {
			return key, true
		}
	}
	return nil, false
}

// first is the least key, from one on, of which messages say something; and whether there is one.
func first(l []api.Msg, from []byte) ([]byte, bool) {
	var keys [][]byte
	for _, m := range msg.Within(l, api.Range{Lo: from, All: true}) {
		keys = append(keys, m.Lo)
	}
	if len(keys) == 0 {
		return nil, false
	}
	return slices.MinFunc(keys, bytes.Compare), true
}

// sink does all that waits for the leaf of a key to it, and tells which keys that leaf has.
func (d *draft) sink(key []byte) api.Range {
	var above []way
	p := d.root
	for !p.leaf {
		i := childOf(p.kids, key)
		above = append(above, way{p, i})
		p = d.child(p, i)
	}
	old := p.entries
	waiting := p.soak(above)
	if nearest := above[len(above)-1]; d.careful && nearest.node.bare() {
		p.entries = old[:1]
		// Nothing else waits for the leaf any more: so the stamp of any that did will do.
		nearest.node.kids[nearest.at].msgs = []api.Msg{{Stamp: waiting[0].Stamp, Kind: api.Del, Lo: old[0].Key}}
		nearest.node.changed = true
	}
	return p.span
}

// bare tells whether fewer than two children of a node would stay without those that are empty.
func (p *page) bare() bool {
	n := 0
	for _, k := range p.kids {
		if k.page == nil || !k.page.empty() {
			n++
		}
	}
	return n < 2
}

// soak takes all messages for a leaf out of the nodes above it, from the lowest one on, and does them to it.
func (p *page) soak(above []way) []api.Msg {
	var waiting []api.Msg
	for _, w := range slices.Backward(above) {
		k := w.node.kids[w.at]
		taken := msg.Within(k.msgs, p.span)
		if len(taken) == 0 {
			continue
		}
		k.msgs = without(k.msgs, p.span)
		w.node.changed = true
		waiting = append(waiting, taken...)
	}
	p.apply(waiting)
	return waiting
}

// without is what messages say of other keys than those of a range.
func without(l []api.Msg, r api.Range) []api.Msg {
	left := msg.Within(l, api.Range{Hi: r.Lo})
	if r.All {
		return left
	}
	left, apart := together(left, msg.Within(l, api.Range{Lo: r.Hi, All: true}))
	mustFit(apart)
	return left
}
