package btree

import (
	"bytes"
	"slices"

	"banyan/api"
	"banyan/branch"
	"banyan/leaf"
)

// page is a page of the tree, as it was read; it is as it must be.
type page struct {
	number  int
	payload []byte
	span    api.Range // the keys that it has
	leaf    bool
	entries []api.Entry // of a leaf
	kids    api.Kids    // of a branch
}

// root reads the root.
func (t *Tree) root() *page { return t.read(t.store.Root(), api.Range{All: true}) }

// child reads the i-th child of a branch.
func (t *Tree) child(p *page, i int) *page {
	span, err := branch.Span(p.kids, p.span, i)
	accept(err)
	return t.read(p.kids.Pages[i], span)
}

// read reads a page, and gives it up, if it is not as it must be.
func (t *Tree) read(n int, span api.Range) *page {
	kind, payload, err := t.store.Get(n)
	mustPage(err == api.OK, n, err)
	p := &page{number: n, payload: payload, span: span, leaf: kind == api.Leaf}
	switch kind {
	case api.Leaf:
		p.entries, err = leaf.Decode(t.store.Size(), payload)
	case api.Branch:
		p.kids, err = branch.Decode(t.store.Size(), payload)
	default:
		err = api.ErrTreeKind
	}
	mustPage(err == api.OK, n, err)
	mustPage(p.shaped(n == t.store.Root()), n, api.ErrTreeShape)
	return p
}

// shaped tells whether the page's keys are those that it may have: as they rise, the first one and the last one say it of all.
func (p *page) shaped(root bool) bool {
	if !p.leaf {
		keys := p.kids.Keys
		return bytes.Compare(p.span.Lo, keys[0]) < 0 && below(keys[len(keys)-1], p.span)
	}
	if len(p.entries) == 0 {
		return root
	}
	return bytes.Compare(p.span.Lo, p.entries[0].Key) <= 0 && below(p.entries[len(p.entries)-1].Key, p.span)
}

// find tells a key's value, and whether it is there.
func (t *Tree) find(key []byte) ([]byte, bool) {
	p := t.root()
	for !p.leaf {
		p = t.child(p, branch.Child(p.kids, key))
	}
	at, there := leaf.Find(p.entries, key)
	if !there {
		return nil, false
	}
	return p.entries[at].Value, true
}

// each does something with a page and with all that are beneath it.
func (t *Tree) each(p *page, do func(*page)) {
	do(p)
	for i := range p.kids.Pages {
		t.each(t.child(p, i), do)
	}
}

// lastChild is the last child that has keys of a range, of which the branch has some.
func lastChild(k api.Kids, r api.Range) int {
	if r.All {
		return len(k.Keys)
	}
	n, _ := slices.BinarySearchFunc(k.Keys, r.Hi, bytes.Compare)
	return n
}

// walk goes through the leaves that have keys of a range.
type walk struct {
	tree  *Tree
	r     api.Range
	begun bool
	path  []*visit // from the root down
}

// visit is a branch that is being gone through: its children from one on, up to another, are to be read yet.
type visit struct {
	*page
	from, to int
}

// next tells the next entries of the range: those of a leaf that has some; none, if there are no more, or one cannot be read.
func (w *walk) next() (l []api.Entry, err error) {
	err = attempt(func() {
		for len(l) == 0 {
			p := w.step()
			if p == nil {
				return
			}
			l = w.within(p.entries)
		}
	})
	return l, err
}

// step reads the next page; nil: there is none.
func (w *walk) step() *page {
	if !w.begun {
		w.begun = true
		w.tree.mustRoot()
		if empty(w.r) {
			return nil
		}
		return w.enter(w.tree.root())
	}
	for len(w.path) > 0 {
		v := w.path[len(w.path)-1]
		if v.from < v.to {
			v.from++
			return w.enter(w.tree.child(v.page, v.from-1))
		}
		w.path = w.path[:len(w.path)-1]
	}
	return nil
}

// enter says that a page was read; the children of a branch are to be gone through then.
func (w *walk) enter(p *page) *page {
	if !p.leaf {
		w.path = append(w.path, &visit{page: p, from: branch.Child(p.kids, w.r.Lo), to: lastChild(p.kids, w.r) + 1})
	}
	return p
}

// within is those of entries that the range has.
func (w *walk) within(l []api.Entry) []api.Entry {
	from, _ := leaf.Find(l, w.r.Lo)
	to := len(l)
	if !w.r.All {
		to, _ = leaf.Find(l, w.r.Hi)
	}
	return l[from:to]
}
