package bulk

import (
	"bytes"

	"banyan/api"
	"banyan/branch"
	"banyan/leaf"
	"banyan/merge"
	"banyan/pages"
)

// inner is how the pages above the leaves are made.
type inner struct {
	kind   api.PageKind
	share  int // children and the keys between them may have that part of a page's room: all, or a half
	encode func(size int, k api.Kids) ([]byte, api.Errno)
}

// tree is one that is being made.
type tree struct {
	inner
	store *pages.Store
	made  []int // its pages so far
}

// grow makes the whole tree, or no page of it, and tells how many entries it has.
func (t *tree) grow(seq merge.Seq, fill int) (int, api.Errno) {
	whole := false
	// Deferred, so that no page stays either where seq panics.
	defer func() {
		if !whole {
			t.fell()
		}
	}()
	leaves, count, err := t.leaves(seq, fill)
	if err != api.OK {
		return 0, err
	}
	root, err := t.raise(leaves)
	if err != api.OK {
		return 0, err
	}
	if err := t.store.SetRoot(root); err != api.OK {
		return 0, err
	}
	whole = true
	return count, api.OK
}

// fell frees all pages of the tree. (A store that has become sick refuses it: nothing is asked of its pages then.)
func (t *tree) fell() {
	for _, n := range t.made {
		t.store.Free(n)
	}
}

// leaves makes the leaves, and tells them, with keys between them, and how many entries they have.
func (t *tree) leaves(seq merge.Seq, fill int) (api.Kids, int, api.Errno) {
	c := newCutter(t.store.Size(), fill)
	var row api.Kids
	var l []api.Entry // of the leaf that comes next
	count := 0
	for key, value := range seq {
		// Its owner may write over what was told as soon as the next one is asked for.
		e := api.Entry{Key: bytes.Clone(key), Value: bytes.Clone(value)}
		begins, err := c.next(e)
		if err != api.OK {
			return api.Kids{}, 0, err
		}
		if begins && count > 0 {
			if err := t.addLeaf(&row, l); err != api.OK {
				return api.Kids{}, 0, err
			}
			row.Keys = append(row.Keys, between(l[len(l)-1].Key, e.Key))
			l = nil
		}
		l = append(l, e)
		count++
	}
	// Of no entries there is one leaf as well.
	err := t.addLeaf(&row, l)
	return row, count, err
}

// raise makes all pages above a row of children, and tells the root.
func (t *tree) raise(leaves api.Kids) (int, api.Errno) {
	var level func(row api.Kids) (int, api.Errno)
	level = func(row api.Kids) (int, api.Errno) {
		if len(row.Pages) == 1 {
			return row.Pages[0], api.OK
		}
		var above api.Kids
		for from := 0; from < len(row.Pages); {
			to := t.end(row, from)
			if err := t.addInner(&above, api.Kids{Pages: row.Pages[from:to], Keys: row.Keys[from : to-1]}); err != api.OK {
				return 0, err
			}
			if to < len(row.Pages) {
				above.Keys = append(above.Keys, row.Keys[to-1])
			}
			from = to
		}
		return level(above)
	}
	return level(leaves)
}

// end is up to which child of a row, that one not, an inner page goes that begins with the child from: as far as it has room.
func (t *tree) end(row api.Kids, from int) int {
	room := roomOf(t.store.Size()) / t.share
	to := from + 1
	long := branch.Bytes(api.Kids{Pages: row.Pages[from:to]})
	for to < len(row.Pages) {
		long += branch.Bytes(api.Kids{Pages: row.Pages[to : to+1], Keys: row.Keys[to-1 : to]}) - branch.Bytes(api.Kids{})
		if long > room {
			break
		}
		to++
	}
	// No page may have one child alone. There is room for seven, however long the keys are: so one of them can go to the last page.
	if to == len(row.Pages)-1 {
		to--
	}
	return to
}

// addLeaf puts a new leaf behind a row.
func (t *tree) addLeaf(row *api.Kids, l []api.Entry) api.Errno {
	payload, err := leaf.Encode(t.store.Size(), l)
	if err != api.OK {
		return err
	}
	return t.add(row, api.Leaf, payload)
}

// addInner puts a new page with children behind a row.
func (t *tree) addInner(row *api.Kids, k api.Kids) api.Errno {
	payload, err := t.encode(t.store.Size(), k)
	if err != api.OK {
		return err
	}
	return t.add(row, t.kind, payload)
}

// add puts a new page behind a row.
func (t *tree) add(row *api.Kids, kind api.PageKind, payload []byte) api.Errno {
	n, err := t.store.New(kind, payload)
	if err != api.OK {
		return err
	}
	t.made = append(t.made, n)
	row.Pages = append(row.Pages, n)
	return api.OK
}

// between is the shortest key above a that is not above b, which is above a.
func between(a []byte, b []byte) []byte {
	n := 0
	for n < len(a) && a[n] == b[n] {
		n++
	}
	return b[:n+1]
}
