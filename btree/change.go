package btree

import (
	"bytes"
	"slices"

	"banyan/api"
	"banyan/branch"
	"banyan/leaf"
)

// A change is worked out in memory first, and nothing is written until it is
// known that there is room for all of it.
//
// It goes from the root down to where a range begins, and to where it ends.
// What is between these two ways goes. At each level, what the pages on both
// ways have beside them is put together, around what becomes of the level
// beneath: that takes the place of these pages, as one page, or as two.
type change struct {
	tree   *Tree
	levels []*level // from the root down to the leaves
	gone   []int    // pages that are to be freed
	count  int      // entries that go
	top    api.Kids // what the root level becomes: one child
}

// level is what stays of the pages of a level that the change has to do with, and what it becomes.
type level struct {
	leaf        bool
	old         []*page // those whose place is taken
	span        api.Range
	left, right row         // of branches: children that stay
	entries     []api.Entry // of leaves
	parts       []part
}

// row is children, each with a key. Left of what is changed a key stands behind its child, right of it ahead of its child.
type row struct {
	pages []int
	keys  [][]byte
}

// part is what is to be written into a page: entries, or children, of which those that are 0 have no number yet.
type part struct {
	entries []api.Entry
	kids    api.Kids
}

// mostPages is how many pages a change of a tree so high writes at most: two at each level, and a root above them.
func mostPages(high int) int { return 2*(high+1) + 1 }

// cut takes the keys of a range away, and tells how many there were.
func (t *Tree) cut(r api.Range) int {
	c := t.along(r)
	c.cut(r)
	if c.count > 0 {
		c.mend()
		c.do(0)
	}
	return c.count
}

// along begins a change of the keys of a range, which is not empty.
func (t *Tree) along(r api.Range) *change {
	c := &change{tree: t}
	first := t.root()
	last := first
	for {
		l := c.enter(first, last)
		if first.leaf {
			return c
		}
		i, j := branch.Child(first.kids, r.Lo), lastChild(last.kids, r)
		l.left = row{pages: first.kids.Pages[:i], keys: first.kids.Keys[:i]}
		l.right = row{pages: last.kids.Pages[j+1:], keys: last.kids.Keys[j:]}
		down := t.child(first, i)
		switch {
		case first != last:
			c.drop(first, i+1, len(first.kids.Pages))
			c.drop(last, 0, j)
			last = t.child(last, j)
		case i != j:
			c.drop(first, i+1, j)
			last = t.child(last, j)
		default:
			last = down
		}
		first = down
	}
}

// enter begins a level by the page on the way to where the range begins, and the one on the way to where it ends.
func (c *change) enter(first *page, last *page) *level {
	l := &level{leaf: first.leaf, old: []*page{first}, span: first.span, entries: first.entries}
	c.levels = append(c.levels, l)
	if last != first {
		l.join(last)
		l.span.Hi, l.span.All = last.span.Hi, last.span.All
		l.entries = slices.Concat(first.entries, last.entries)
	}
	return l
}

// join lets the level take the place of one page more.
func (l *level) join(p *page) {
	mustPage(p.leaf == l.leaf, p.number, api.ErrTreeShape)
	l.old = append(l.old, p)
}

// drop frees the children of a branch from one on, up to another, with all that is beneath them.
func (c *change) drop(p *page, from int, to int) {
	for i := from; i < to; i++ {
		c.tree.each(c.tree.child(p, i), func(p *page) {
			c.gone = append(c.gone, p.number)
			c.count += len(p.entries)
		})
	}
}

// high is how high the tree is.
func (c *change) high() int { return len(c.levels) - 1 }

// leaves is the level of the leaves.
func (c *change) leaves() *level { return c.levels[c.high()] }

// put puts an entry in.
func (c *change) put(e api.Entry) { c.leaves().entries = leaf.Set(c.leaves().entries, e) }

// cut takes the entries of the range out that the drops have not.
func (c *change) cut(r api.Range) {
	left, n := leaf.Cut(c.leaves().entries, r)
	c.leaves().entries = left
	c.count += n
}

// mend lets levels of which little stays have a neighbour of it, from the root down.
//
// A level that has one child beside it, or none, is always thin. So behind
// mend either a level is left with two children at least, or no level above
// it has any: then it is the root that goes.
func (c *change) mend() {
	for i, l := range c.levels[1:] {
		if l.thin(c.tree.room()) {
			c.pull(c.levels[i], l)
		}
	}
}

// thin tells whether so little stays at a level that it is better joined with a neighbour. Leaves of which nothing stays go.
func (l *level) thin(room int) bool {
	if l.leaf {
		return len(l.entries) > 0 && leaf.Bytes(l.entries) < room/4
	}
	return branch.Bytes(l.left.kids())+branch.Bytes(l.right.kids()) < room/4
}

// kids is a row as children, as far as their bytes count.
func (r row) kids() api.Kids { return api.Kids{Pages: r.pages, Keys: r.keys} }

// pull takes a neighbour, if there is one, out of the level above.
func (c *change) pull(above *level, l *level) {
	if n := len(above.left.pages); n > 0 {
		span := api.Range{Lo: above.span.Lo, Hi: above.left.keys[n-1]}
		if n > 1 {
			span.Lo = above.left.keys[n-2]
		}
		l.pullLeft(c.tree.read(above.left.pages[n-1], span))
		above.left = row{pages: above.left.pages[:n-1], keys: above.left.keys[:n-1]}
		return
	}
	if n := len(above.right.pages); n > 0 {
		span := api.Range{Lo: above.right.keys[0], Hi: above.span.Hi, All: above.span.All}
		if n > 1 {
			span.Hi, span.All = above.right.keys[1], false
		}
		l.pullRight(c.tree.read(above.right.pages[0], span))
		above.right = row{pages: above.right.pages[1:], keys: above.right.keys[1:]}
	}
}

// pullLeft puts what a page has ahead of what the level has.
func (l *level) pullLeft(p *page) {
	l.join(p)
	l.span.Lo = p.span.Lo
	if l.leaf {
		l.entries = slices.Concat(p.entries, l.entries)
		return
	}
	l.left = row{
		pages: slices.Concat(p.kids.Pages, l.left.pages),
		keys:  slices.Concat(p.kids.Keys, [][]byte{p.span.Hi}, l.left.keys),
	}
}

// pullRight puts what a page has behind what the level has.
func (l *level) pullRight(p *page) {
	l.join(p)
	l.span.Hi, l.span.All = p.span.Hi, p.span.All
	if l.leaf {
		l.entries = slices.Concat(l.entries, p.entries)
		return
	}
	l.right = row{
		pages: slices.Concat(l.right.pages, p.kids.Pages),
		keys:  slices.Concat(l.right.keys, [][]byte{p.span.Lo}, p.kids.Keys),
	}
}

// do carries the change out, if there is room for it, and so many pages are left then.
func (c *change) do(spare int) {
	c.plan()
	need := spare
	for _, l := range c.levels {
		need += len(l.parts)
	}
	must(c.tree.store.Left() >= need, api.ErrFull)
	c.write()
}

// plan says what each level becomes, from the leaves up.
func (c *change) plan() {
	middle := c.planLeaves()
	for _, l := range slices.Backward(c.levels[:c.high()]) {
		middle = c.planBranches(l, middle)
	}
	for len(middle.Pages) > 1 {
		l := &level{}
		middle = c.planBranches(l, middle)
		c.levels = slices.Insert(c.levels, 0, l)
	}
	c.top = middle
}

// planLeaves says what the leaves become, and tells them, as children that have no number yet.
func (c *change) planLeaves() api.Kids {
	l := c.leaves()
	if len(l.entries) == 0 && c.othersStay() {
		return api.Kids{}
	}
	if leaf.Bytes(l.entries) <= c.tree.room() {
		l.parts = []part{{entries: l.entries}}
		return api.Kids{Pages: []int{0}}
	}
	n, err := leaf.Split(c.tree.store.Size(), l.entries)
	accept(err)
	l.parts = []part{{entries: l.entries[:n]}, {entries: l.entries[n:]}}
	between := between(l.entries[n-1].Key, l.entries[n].Key)
	return api.Kids{Pages: []int{0, 0}, Keys: [][]byte{between}}
}

// othersStay tells whether there are other leaves than those that the change has to do with.
func (c *change) othersStay() bool {
	return slices.ContainsFunc(c.levels, func(l *level) bool { return len(l.left.pages)+len(l.right.pages) > 0 })
}

// planBranches says what a level becomes around what becomes of the one beneath, and tells that likewise. One child alone needs no branch: it is told itself.
func (c *change) planBranches(l *level, middle api.Kids) api.Kids {
	k := l.around(middle)
	if len(k.Pages) < 2 {
		return k
	}
	if branch.Bytes(k) <= c.tree.room() {
		l.parts = []part{{kids: k}}
		return api.Kids{Pages: []int{0}}
	}
	n, err := branch.Split(c.tree.store.Size(), k)
	accept(err)
	l.parts = []part{
		{kids: api.Kids{Pages: k.Pages[:n], Keys: k.Keys[:n-1]}},
		{kids: api.Kids{Pages: k.Pages[n:], Keys: k.Keys[n:]}},
	}
	return api.Kids{Pages: []int{0, 0}, Keys: k.Keys[n-1 : n]}
}

// around is the level's children with others between them.
func (l *level) around(middle api.Kids) api.Kids {
	k := api.Kids{
		Pages: slices.Concat(l.left.pages, middle.Pages, l.right.pages),
		Keys:  slices.Concat(l.left.keys, middle.Keys, l.right.keys),
	}
	if len(middle.Pages) == 0 && len(k.Keys) > 0 {
		// Where nothing is between, one of both keys around it is too many.
		at := min(len(l.left.keys), len(k.Keys)-1)
		k.Keys = slices.Delete(k.Keys, at, at+1)
	}
	return k
}

// between is the shortest key above a that is not above b, which is above a.
func between(a []byte, b []byte) []byte {
	n := 0
	for n < len(a) && a[n] == b[n] {
		n++
	}
	return b[:n+1]
}

// write writes all levels, from the leaves up.
func (c *change) write() {
	var made []int
	for _, l := range slices.Backward(c.levels) {
		if len(l.parts) > 0 {
			made = c.place(l, made)
		}
		for _, p := range l.old[min(len(l.parts), len(l.old)):] {
			c.gone = append(c.gone, p.number)
		}
	}
	number(c.top.Pages, made)
	accept(c.tree.store.SetRoot(c.top.Pages[0]))
	c.tree.free(c.gone)
}

// place writes a level's parts, into its old pages as far as there are some; the numbers of those beneath it that were made are known.
func (c *change) place(l *level, made []int) []int {
	var numbers []int
	for i, x := range l.parts {
		made = number(x.kids.Pages, made)
		payload := c.encode(l, x)
		var n int
		var err api.Errno
		switch {
		case i >= len(l.old):
			n, err = c.tree.store.New(l.kind(), payload)
		case bytes.Equal(l.old[i].payload, payload):
			n = l.old[i].number
		default:
			n, err = c.tree.store.Set(l.old[i].number, payload)
		}
		accept(err)
		numbers = append(numbers, n)
	}
	return numbers
}

// number gives children that have no number the next ones, and tells those that are left.
func number(children []int, made []int) []int {
	for i, n := range children {
		if n == 0 {
			children[i], made = made[0], made[1:]
		}
	}
	return made
}

// kind is that of the level's pages.
func (l *level) kind() api.PageKind {
	if l.leaf {
		return api.Leaf
	}
	return api.Branch
}

// encode is the payload of a part.
func (c *change) encode(l *level, x part) []byte {
	var payload []byte
	var err api.Errno
	if l.leaf {
		payload, err = leaf.Encode(c.tree.store.Size(), x.entries)
	} else {
		payload, err = branch.Encode(c.tree.store.Size(), x.kids)
	}
	accept(err)
	return payload
}
