package betree

import (
	"slices"

	"banyan/api"
	"banyan/leaf"
)

// cut takes the keys of a range away at once: whole children of nodes go, and entries and messages along the two ways to where the range begins, and where it ends.
func (t *Tree) cut(r api.Range) {
	for !t.try(0, func(d *draft) bool { d.prune(d.root, r, nil); return true }) {
	}
}

// prune takes the keys of a range out of a page, which has some of them; above is the way to it.
func (d *draft) prune(p *page, r api.Range, above []way) {
	if p.leaf {
		// Nothing must wait for a leaf that may be empty then.
		p.soak(above)
		left, n := leaf.Cut(p.entries, r)
		if n > 0 {
			p.entries, p.changed = left, true
		}
		return
	}
	from, to := childOf(p.kids, r.Lo), lastOf(p.kids, r)
	kept := slices.Clone(p.kids[:from])
	for i := from; i <= to; i++ {
		if inside(p.spanOf(i), r) {
			d.gone = append(d.gone, d.tree.beneath(d.tree.child(p, i))...)
			continue
		}
		p.forget(i, r)
		d.prune(d.child(p, i), r, append(above, way{p, i}))
		kept = append(kept, p.kids[i])
	}
	kept = append(kept, p.kids[to+1:]...)
	if len(kept) < len(p.kids) {
		p.kids, p.changed = kept, true
	}
}

// forget takes those messages for a child away that say something of no keys but those of a range.
func (p *page) forget(i int, r api.Range) {
	k := p.kids[i]
	left := slices.DeleteFunc(slices.Clone(k.msgs), func(m api.Msg) bool { return within(m, r) })
	if len(left) < len(k.msgs) {
		k.msgs, p.changed = left, true
	}
}
