package betree

import (
	"bytes"

	"banyan/api"
	"banyan/leaf"
	"banyan/node"
)

// draft is a change that is worked out in memory. Nothing is written until it
// is known that there is room for all of it.
type draft struct {
	tree    *Tree
	root    *page
	gone    []int // pages that are to be freed
	careful bool  // no node is left with one child
}

// way is a node on the way down, and which child the way goes on to.
type way struct {
	node *page
	at   int
}

// begin begins a change.
func (t *Tree) begin() *draft {
	r := t.root()
	r.touched = true
	return &draft{tree: t, root: r}
}

// try works a change out and carries it out, if so many pages are left then. It tells what the change answers. Where there is no room for messages, they are all brought down to the leaves, and it tells false.
func (t *Tree) try(spare int, change func(*draft) bool) bool {
	d := t.begin()
	done := false
	if !roomy(func() { done = change(d); d.crown() }) {
		t.flush()
		return false
	}
	d.do(spare)
	return done
}

// child is the i-th child of a node, to which the change goes on.
func (d *draft) child(p *page, i int) *page {
	q := d.beside(p, i)
	q.touched = true
	return q
}

// beside is the i-th child of a node, which need not be changed.
func (d *draft) beside(p *page, i int) *page {
	k := p.kids[i]
	if k.page == nil {
		k.page = d.tree.child(p, i)
	}
	return k.page
}

// leave says that a page is not there any more, once the change is done.
func (d *draft) leave(p *page) {
	if p.number != 0 {
		d.gone = append(d.gone, p.number)
	}
}

// do carries the change out, if there is room for it, and so many pages are left then.
func (d *draft) do(spare int) {
	store := d.tree.store
	must(store.Left() >= d.root.most()+spare, api.ErrFull)
	accept(store.SetRoot(d.write(d.root)))
	d.tree.free(d.gone)
}

// most is how many pages are written at most of a page and of those beneath it: what is above a page that is written may have to name another number.
func (p *page) most() int {
	n := 0
	for _, k := range p.kids {
		if k.page != nil {
			n += k.page.most()
		}
	}
	if n > 0 || p.changed {
		n++
	}
	return n
}

// write writes what was changed of a page and of those beneath it, and tells its number.
func (d *draft) write(p *page) int {
	for _, k := range p.kids {
		if k.page == nil {
			continue
		}
		if n := d.write(k.page); n != k.number {
			k.number = n
			p.changed = true
		}
	}
	if !p.changed {
		return p.number
	}
	kind, payload := d.encode(p)
	n, err := p.number, api.OK
	switch {
	case n == 0:
		n, err = d.tree.store.New(kind, payload)
	case !bytes.Equal(payload, p.payload):
		n, err = d.tree.store.Set(n, payload)
	}
	accept(err)
	return n
}

// encode is a page's kind and its payload.
func (d *draft) encode(p *page) (api.PageKind, []byte) {
	kind, size := api.Leaf, d.tree.store.Size()
	var payload []byte
	var err api.Errno
	if p.leaf {
		payload, err = leaf.Encode(size, p.entries)
	} else {
		kind = api.Node
		payload, err = node.Encode(size, p.buffered())
	}
	accept(err)
	return kind, payload
}
