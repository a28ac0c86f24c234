package betree

import (
	"bytes"
	"cmp"
	"slices"

	"banyan/api"
	"banyan/msg"
	"banyan/node"
)

// say puts a message into the tree: into a leaf that is the root, or to those that wait in the root, if there is room for it there. As long as there is none, messages go down, each time those for one child, by one level: so of each such step it is known how many pages it may need.
func (t *Tree) say(m api.Msg, spare int) {
	for !t.try(spare, func(d *draft) bool { return d.say(m) }) {
	}
}

// say puts a message into the root, or lets others go down; it tells whether it is there.
func (d *draft) say(m api.Msg) bool {
	if d.root.leaf {
		d.root.apply([]api.Msg{m})
		return true
	}
	if d.root.pour([]api.Msg{m}, d.tree.room()/2) {
		return true
	}
	d.push(d.root)
	return false
}

// push lets the messages for one child of a node go down, which the policy chooses; or, if that has no room for them, those for one of its own.
func (d *draft) push(x *page) {
	i, err := d.tree.chooser.Choose(node.Weights(x.buffered()))
	accept(err)
	k := x.kids[i]
	y := d.child(x, i)
	batch := k.msgs
	if d.tree.chooser.Settles() {
		batch = msg.Settle(batch)
	}
	switch {
	case y.leaf:
		y.apply(batch)
	case y.pour(batch, d.tree.room()/2):
	default:
		mustFit(y.waits())
		d.push(y)
		return
	}
	k.msgs = nil
	x.changed = true
}

// waits tells whether messages wait in a node.
func (p *page) waits() bool {
	return slices.ContainsFunc(p.kids, func(k *kid) bool { return len(k.msgs) > 0 })
}

// apply does what messages say to a leaf.
func (p *page) apply(l []api.Msg) {
	if len(l) > 0 {
		p.entries = msg.Apply(p.entries, l)
		p.changed = true
	}
}

// pour puts messages, which come from above, to those that wait in a node, if these have at most so many bytes then; it tells whether they have.
func (p *page) pour(l []api.Msg, most int) bool {
	lists := make([][]api.Msg, len(p.kids))
	for i, k := range p.kids {
		lists[i] = k.msgs
	}
	for _, m := range l {
		for i := childOf(p.kids, m.Lo); i < len(p.kids); i++ {
			piece := msg.Within([]api.Msg{m}, p.spanOf(i))
			if len(piece) == 0 {
				break
			}
			lists[i] = behind(lists[i], piece[0])
		}
	}
	if msg.Bytes(slices.Concat(lists...)) > most {
		return false
	}
	for i, k := range p.kids {
		k.msgs = lists[i]
	}
	p.changed = true
	return true
}

// behind puts a message to others, in the order of stamps; it comes from above, so those that say something of its Lo alone are done with.
func behind(l []api.Msg, m api.Msg) []api.Msg {
	l = slices.DeleteFunc(slices.Clone(l), func(o api.Msg) bool {
		return o.Kind != api.DelRange && bytes.Equal(o.Lo, m.Lo)
	})
	l, apart := together(l, []api.Msg{m})
	mustFit(apart)
	return l
}

// together puts messages for one child together, in the order of stamps; and tells whether these are all unlike, as they must be.
func together(a []api.Msg, b []api.Msg) ([]api.Msg, bool) {
	l := slices.Concat(a, b)
	slices.SortFunc(l, byStamp)
	for i := range l[min(1, len(l)):] {
		if byStamp(l[i], l[i+1]) == 0 {
			return nil, false
		}
	}
	return l, true
}

// byStamp holds messages against one another by their stamps.
func byStamp(a api.Msg, b api.Msg) int { return cmp.Compare(a.Stamp, b.Stamp) }
