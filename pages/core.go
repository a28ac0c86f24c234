package pages

import (
	"math"
	"slices"
	"strings"

	"banyan/api"
	"banyan/dead"
	"banyan/dev"
	"banyan/page"
	"banyan/space"
)

// yet is when a page died that the present state has.
const yet = math.MaxUint64

// firstPage is the least number of a page: the blocks ahead of it have the books' beginnings.
const firstPage = 2

// life is that of a page in use.
//
// While the page is there it keeps its life, whichever number Set gives it:
// so whoever has the life as a root has the page that it became. What only
// other states have yet is a life of its own.
type life struct {
	api.Life // Page 0: it is not there any more
	kind     api.PageKind
	payload  []byte // only of one that is not committed yet: it stands nowhere else
}

// in tells whether the state of a generation has the page.
func (l *life) in(gen uint64) bool { return l != nil && l.Born <= gen && gen < l.Died }

// number is the page's; 0: there is none.
func (l *life) number() int {
	if l == nil {
		return 0
	}
	return l.Page
}

// head is what the page's block must say.
func (l *life) head() api.Head { return api.Head{Kind: l.kind, Number: l.Page, Gen: l.Born} }

// state is what a state tells beside its pages. Its bytes are never written into, so that states may share them.
type state struct {
	gen  uint64
	root int
	meta []byte
}

// snapshot is a state that has a name.
type snapshot struct {
	name string
	state
}

// core is what all stores have in common that are seen beside one another, and their snapshots.
//
// The present state is the one of the next generation: what is made has been
// born in that, and what is freed has died in it.
type core struct {
	dev   *dev.Dev
	sick  bool
	lives []*life      // of all pages in use, by their numbers
	used  *space.Space // the first two blocks, those of pages in use, and those of links
	links []int        // the blocks that the committed state's books have behind the first two
	last  book         // of the committed state
	root  *life
	meta  []byte
	snaps []snapshot // rising by their names; never written into
}

// newCore is one of a store that was never committed.
func newCore(d *dev.Dev) *core {
	used, _ := space.New(d.Blocks(), firstPage)
	return &core{dev: d, lives: make([]*life, d.Blocks()), used: used}
}

// next is the generation that the present state will be.
func (c *core) next() uint64 { return c.last.gen + 1 }

// fresh tells whether a page was born since the last Commit.
func (c *core) fresh(l *life) bool { return l.Born == c.next() }

// fits tells whether a page has room for a payload.
func (c *core) fits(payload []byte) bool { return len(payload) <= page.Room(c.dev.Size()) }

// inUse is how many pages are.
func (c *core) inUse() int { return c.used.Used() - firstPage - len(c.links) }

// room is how many pages may be made, if the Reserve is left alone: of so few blocks as there may be at least 0.
func (c *core) room() int {
	blocks := c.dev.Blocks()
	reserve := 12 + blocks/8
	return blocks - firstPage - c.inUse() - reserve
}

// place puts a page that is new, or was elsewhere, into a block that is free.
func (c *core) place(l *life, payload []byte) int {
	must(c.room() > 0, api.ErrFull)
	n, err := c.used.Alloc()
	must(err == api.OK, err)
	l.Life = api.Life{Page: n, Born: c.next(), Died: yet}
	l.payload = slices.Clone(payload)
	c.lives[n] = l
	return n
}

// bury says that a page that was committed has died.
func (c *core) bury(old life) {
	old.Died = c.next()
	c.lives[old.Page] = &old
}

// drop takes a page away that no other state has.
func (c *core) drop(n int) {
	c.lives[n].Page = 0
	c.lives[n].payload = nil
	c.lives[n] = nil
	c.used.Free(n)
}

// takeBack makes the present state the committed one.
func (c *core) takeBack() {
	for n, l := range c.lives {
		switch {
		case l == nil:
		case c.fresh(l):
			c.drop(n)
		case l.Died >= c.next():
			c.revive(n)
		}
	}
	c.restore()
}

// revive makes a page one that is there, by a new life: whoever has the old one as a root has none then.
func (c *core) revive(n int) {
	l := *c.lives[n]
	l.Died = yet
	c.lives[n].Page = 0
	c.lives[n] = &l
}

// restore makes the root, the meta and the snapshots those of the committed state.
func (c *core) restore() {
	c.root = c.lives[c.last.root]
	c.meta = c.last.meta
	c.snaps = c.last.snaps
}

// present is what the present state's books say.
func (c *core) present() book {
	return book{state: state{gen: c.next(), root: c.root.number(), meta: c.meta}, snaps: c.snaps}
}

// needless tells the pages that died and that no snapshot of these needs.
func (c *core) needless(snaps []snapshot) []int {
	list := dead.New()
	for _, l := range c.lives {
		if l != nil && l.Died != yet {
			list.Put(l.Life)
		}
	}
	var gens []uint64
	for _, x := range snaps {
		gens = append(gens, x.gen)
	}
	return list.Free(gens)
}

// findSnap is where a snapshot of that name stands, or would, and whether it does.
func (c *core) findSnap(name string) (int, bool) {
	return slices.BinarySearchFunc(c.snaps, name, func(x snapshot, name string) int {
		return strings.Compare(x.name, name)
	})
}

// format makes the device a store's, whatever it was.
func (c *core) format() {
	for n := range firstPage {
		c.write(n, make([]byte, c.dev.Size()))
	}
	c.commit()
}

// commit makes the present state the committed one.
//
// The books' beginning is written behind a Barrier of its own: it is believed,
// so all that it leads to must last ahead of it. Until all is written nothing
// is changed here.
func (c *core) commit() {
	b := c.present()
	lives, used := slices.Clone(c.lives), c.used.Copy()
	needless := c.needless(b.snaps)
	for _, n := range needless {
		lives[n] = nil
	}
	blocks := chain(c.dev.Size(), b.gen, b.encode(lives), used)
	c.writePages()
	for _, x := range blocks[1:] {
		c.write(x.number, x.bytes)
	}
	c.barrier()
	c.write(blocks[0].number, blocks[0].bytes)
	c.barrier()
	for _, n := range slices.Concat(needless, c.links) {
		used.Free(n)
	}
	c.settle(b, lives, used, blocks[1:])
}

// writePages writes all pages that were made since the last Commit.
func (c *core) writePages() {
	for n, l := range c.lives {
		if l != nil && c.fresh(l) {
			b, err := page.Seal(c.dev.Size(), l.head(), l.payload)
			must(err == api.OK, err)
			c.write(n, b)
		}
	}
}

// settle says that the present state was committed, by those books.
func (c *core) settle(b book, lives []*life, used *space.Space, links []block) {
	for _, l := range lives {
		if l != nil {
			l.payload = nil
		}
	}
	c.last, c.lives, c.used, c.links = b, lives, used, nil
	for _, x := range links {
		c.links = append(c.links, x.number)
	}
}

// write writes a block.
func (c *core) write(n int, b []byte) { c.obey(c.dev.Write(n, b)) }

// barrier makes all that was written last.
func (c *core) barrier() { c.obey(c.dev.Barrier()) }

// obey gives a change up that the device refuses, and all further ones.
func (c *core) obey(err api.Errno) {
	if err != api.OK {
		c.sick = true
		panic(err)
	}
}
