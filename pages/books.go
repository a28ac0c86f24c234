package pages

import (
	"slices"

	"banyan/api"
	"banyan/page"
	"banyan/space"
)

// The books of a state are a text of bytes, cut into pieces that stand in a
// chain of Super pages of its generation, from one of the first two blocks on.
// Each has the number of the next one's block ahead of its piece; the last one
// has 0 there.

// linkBytes is how many bytes the number of the next block has.
const linkBytes = 4

// mark is what books begin with, so that other bytes are none.
const mark = "banyan"

// book is what books say beside pages.
type book struct {
	state
	snaps []snapshot
}

// block is what is to be written into one.
type block struct {
	number int
	bytes  []byte
}

// chain is the blocks of the books of a generation: the first one's, and others, which it takes out of those that are not used.
func chain(size int, gen uint64, text []byte, used *space.Space) []block {
	pieces := slices.Collect(slices.Chunk(text, page.Room(size)-linkBytes))
	blocks := []block{{number: int(gen % firstPage)}}
	for range pieces[1:] {
		// There are always some: of the Reserve's blocks no books take more than half.
		n, err := used.Alloc()
		must(err == api.OK, err)
		blocks = append(blocks, block{number: n})
	}
	next := 0
	for i, piece := range slices.Backward(pieces) {
		h := api.Head{Kind: api.Super, Number: blocks[i].number, Gen: gen}
		b, err := page.Seal(size, h, append(link(next), piece...))
		must(err == api.OK, err)
		blocks[i].bytes = b
		next = blocks[i].number
	}
	return blocks
}

// link is the bytes of the number of the next block.
func link(n int) []byte {
	var b []byte
	for i := range linkBytes {
		b = append(b, byte(n>>(8*(linkBytes-1-i))))
	}
	return b
}

// linked is the number of the next block.
func linked(b []byte) int {
	n := 0
	for _, digit := range b {
		n = n<<8 | int(digit)
	}
	return n
}

// encode is the text of books with these pages.
func (b book) encode(lives []*life) []byte {
	text := b.state.encode([]byte(mark))
	text = putNumber(text, uint64(len(b.snaps)))
	for _, x := range b.snaps {
		text = putBytes(text, []byte(x.name))
		text = x.state.encode(text)
	}
	ahead := 0
	for n, l := range lives {
		if l != nil {
			text = l.encode(text, n-ahead, b.gen)
			ahead = n
		}
	}
	return text
}

// encode puts a state behind a text.
func (s state) encode(text []byte) []byte {
	text = putNumber(text, s.gen)
	text = putNumber(text, uint64(s.root))
	return putBytes(text, s.meta)
}

// encode puts a life behind a text, by small numbers: how far its page is behind the one ahead, and how many generations ago it was born, and died.
func (l *life) encode(text []byte, gap int, gen uint64) []byte {
	text = putNumber(text, uint64(gap))
	text = putNumber(text, uint64(l.kind))
	text = putNumber(text, gen-l.Born)
	if l.Died == yet {
		return putNumber(text, 0)
	}
	return putNumber(text, gen-l.Died+1)
}

// putNumber puts a number behind a text, the lowest seven bits first, in as few bytes as there must be.
func putNumber(text []byte, n uint64) []byte {
	for ; n >= 0x80; n >>= 7 {
		text = append(text, byte(n)|0x80)
	}
	return append(text, byte(n))
}

// putBytes puts bytes behind a text.
func putBytes(text []byte, b []byte) []byte {
	text = putNumber(text, uint64(len(b)))
	return append(text, b...)
}

// open makes the core the one of the state that stands on the device.
func (c *core) open() api.Found {
	// Else what is believed might be lost with the power yet.
	err := c.dev.Barrier()
	must(err == api.OK, err)
	var found api.Found
	for n := range firstPage {
		gen, right := c.beginning(n)
		if !right {
			found.Spoilt++
		}
		found.Gen = max(found.Gen, gen)
	}
	// Of no state the generation is 0, whatever a block says.
	must(found.Gen > 0, api.ErrPagesLost)
	c.decode(c.text(found.Gen), found.Gen)
	found.Used = c.inUse()
	return found
}

// beginning tells whether one of the first two blocks is right, and its generation.
func (c *core) beginning(n int) (uint64, bool) {
	b, err := c.dev.Read(n)
	if err == api.ErrDevBad {
		return 0, false
	}
	must(err == api.OK, err)
	h, _, err := page.Open(b, n)
	if err != api.OK || h.Kind != api.Super || h.Gen%firstPage != uint64(n) {
		return 0, false
	}
	return h.Gen, true
}

// text is that of the books of a generation; the blocks in which it stands are used then.
func (c *core) text(gen uint64) []byte {
	var text []byte
	for n := int(gen % firstPage); ; {
		b, err := c.dev.Read(n)
		must(err == api.OK, api.ErrPagesLost)
		h, payload, err := page.Open(b, n)
		must(err == api.OK && h == api.Head{Kind: api.Super, Number: n, Gen: gen}, api.ErrPagesLost)
		must(len(payload) >= linkBytes, api.ErrPagesLost)
		text = append(text, payload[linkBytes:]...)
		n = linked(payload[:linkBytes])
		if n == 0 {
			return text
		}
		c.take(n)
		c.links = append(c.links, n)
	}
}

// take uses a block that books speak of: of two that speak of the same one, or of one that there is not, they are none.
func (c *core) take(n int) { must(c.used.Take(n) == api.OK, api.ErrPagesLost) }

// decode reads the books of a generation.
func (c *core) decode(text []byte, gen uint64) {
	r := reader{rest: text, gen: gen, size: c.dev.Size()}
	must(string(r.bytes(uint64(len(mark)))) == mark, api.ErrPagesLost)
	c.last.state = r.state()
	must(c.last.gen == gen, api.ErrPagesLost)
	for range r.number(api.MaxSnaps) {
		c.last.snaps = append(c.last.snaps, r.snapshot())
	}
	for n := 0; len(r.rest) > 0; {
		l := r.life(n, len(c.lives))
		n = l.Page
		c.take(n)
		c.lives[n] = l
	}
	c.mustAgree()
	c.restore()
}

// mustAgree holds the parts of the books against one another.
func (c *core) mustAgree() {
	must(c.room() >= 0 && len(c.needless(c.last.snaps)) == 0, api.ErrPagesLost)
	must(c.mayRoot(c.last.state), api.ErrPagesLost)
	name := ""
	for _, x := range c.last.snaps {
		must(isName(x.name) && x.name > name, api.ErrPagesLost)
		must(x.gen < c.last.gen && c.mayRoot(x.state), api.ErrPagesLost)
		name = x.name
	}
}

// mayRoot tells whether the root of a state is one of its pages, or 0.
func (c *core) mayRoot(s state) bool {
	return s.root == 0 || s.root < len(c.lives) && c.lives[s.root].in(s.gen)
}

// reader has the text of books, of a generation, that is not read yet. What it cannot read it gives up.
type reader struct {
	rest []byte
	gen  uint64
	size int
}

// number reads a number, which is at most so much.
func (r *reader) number(most uint64) uint64 {
	var n uint64
	for i, b := range r.rest {
		n |= uint64(b&0x7f) << (7 * i)
		if b < 0x80 {
			r.rest = r.rest[i+1:]
			must(n <= most, api.ErrPagesLost)
			return n
		}
	}
	panic(api.ErrPagesLost)
}

// bytes reads so many bytes.
func (r *reader) bytes(count uint64) []byte {
	must(count <= uint64(len(r.rest)), api.ErrPagesLost)
	b := r.rest[:count]
	r.rest = r.rest[count:]
	return b
}

// state reads a state.
func (r *reader) state() state {
	return state{
		gen:  r.number(r.gen),
		root: int(r.number(api.MaxBlocks - 1)),
		meta: slices.Clone(r.bytes(r.number(uint64(maxMeta(r.size))))),
	}
}

// snapshot reads a snapshot.
func (r *reader) snapshot() snapshot {
	name := string(r.bytes(r.number(api.MaxName)))
	return snapshot{name, r.state()}
}

// life reads the life of a page behind the one ahead, of so many blocks.
func (r *reader) life(ahead int, blocks int) *life {
	l := &life{}
	l.Page = ahead + int(r.number(uint64(blocks)))
	l.kind = api.PageKind(r.number(uint64(api.Other)))
	must(isKind(l.kind), api.ErrPagesLost)
	l.Born = r.gen - r.number(r.gen-1)
	l.Died = yet
	if ago := r.number(r.gen - l.Born); ago > 0 {
		l.Died = r.gen - ago + 1
	}
	return l
}
