package pages_test

import (
	"maps"
	"slices"
	"strings"
	"testing"

	"banyan/api"
	"banyan/dev"
	"banyan/page"
	"banyan/pages"
)

// leaf is a page of a state, by the chapter's words.
type leaf struct {
	kind    api.PageKind
	payload string
	born    uint64
}

// status is a state, by the chapter's words; of a snapshot there are no snaps.
type status struct {
	gen   uint64
	root  int
	meta  string
	pages map[int]leaf
	snaps map[string]status
}

// copied is another one, which is as this one is.
func (s status) copied() status {
	s.pages, s.snaps = maps.Clone(s.pages), maps.Clone(s.snaps)
	return s
}

// live are the numbers of the pages, rising.
func (s status) live() []int { return slices.Sorted(maps.Keys(s.pages)) }

// names are those of the snapshots, rising.
func (s status) names() []string { return slices.Sorted(maps.Keys(s.snaps)) }

// trial is a store, what it must tell, and those that are seen beside it with their roots.
type trial struct {
	t      *testing.T
	d      *dev.Dev
	s      *pages.Store
	last   status // the committed one
	now    status
	beside []*pages.Store
	roots  []int
}

// begun is a store on a new device.
func begun(t *testing.T, size int, blocks int) *trial {
	t.Helper()
	d := device(t, size, blocks)
	s, err := pages.Format(d)
	if err != api.OK || s == nil {
		t.Fatalf("Format: %v", err)
	}
	x := &trial{t: t, d: d, s: s, last: nothing(1)}
	x.now = x.last.copied()
	return x
}

// nothing is a state without anything.
func nothing(gen uint64) status {
	return status{gen: gen, pages: map[int]leaf{}, snaps: map[string]status{}}
}

// device is a new one.
func device(t *testing.T, size int, blocks int) *dev.Dev {
	t.Helper()
	d, err := dev.New(size, blocks)
	if err != api.OK {
		t.Fatalf("dev.New: %v", err)
	}
	return d
}

// reserve is the chapter's.
func reserve(blocks int) int { return 12 + blocks/8 }

// inUse are the pages that are.
func (x *trial) inUse() map[int]bool { return inUse(x.last, x.now) }

func inUse(states ...status) map[int]bool {
	used := map[int]bool{}
	for _, s := range states {
		for n := range s.pages {
			used[n] = true
		}
		for _, snap := range s.snaps {
			for n := range snap.pages {
				used[n] = true
			}
		}
	}
	return used
}

// some is one of the stores that are seen beside one another.
func (x *trial) some(at int) *pages.Store {
	if at == 0 || len(x.beside) == 0 {
		return x.s
	}
	return x.beside[at%len(x.beside)]
}

// taken holds the number of a page that was made against what it may be.
func (x *trial) taken(what string, n int) {
	x.t.Helper()
	if n < 2 || n >= x.d.Blocks() || x.inUse()[n] {
		x.t.Fatalf("%s: the page %d, of those in use: %v", what, n, x.inUse())
	}
}

// make makes a page by one of the stores.
func (x *trial) make(s *pages.Store, kind api.PageKind, payload string) (int, api.Errno) {
	x.t.Helper()
	left := s.Left()
	n, err := s.New(kind, []byte(payload))
	switch {
	case kind < 2 || kind > 5:
		x.want("New", err, api.ErrArg)
	case len(payload) > x.d.Size()-32:
		x.want("New", err, api.ErrPageLong)
	case left == 0:
		x.want("New", err, api.ErrFull)
	default:
		x.want("New", err, api.OK)
		x.taken("New", n)
		x.now.pages[n] = leaf{kind: kind, payload: payload, born: x.last.gen + 1}
	}
	x.fewer("New", left)
	x.zero("New", n, err)
	return n, err
}

// set gives a page another payload, by one of the stores.
func (x *trial) set(s *pages.Store, n int, payload string) (int, api.Errno) {
	x.t.Helper()
	left := s.Left()
	to, err := s.Set(n, []byte(payload))
	p, there := x.now.pages[n]
	switch {
	case !there:
		x.want("Set", err, api.ErrPagesNone)
	case len(payload) > x.d.Size()-32:
		x.want("Set", err, api.ErrPageLong)
	case p.born == x.last.gen+1:
		x.want("Set", err, api.OK)
		if to != n || s.Left() != left {
			x.t.Fatalf("Set of a new page %d: %d, Left %d, was %d", n, to, s.Left(), left)
		}
		p.payload = payload
		x.now.pages[n] = p
	case left == 0:
		x.want("Set", err, api.ErrFull)
	default:
		x.want("Set", err, api.OK)
		x.taken("Set", to)
		delete(x.now.pages, n)
		x.now.pages[to] = leaf{kind: p.kind, payload: payload, born: x.last.gen + 1}
		x.reroot(n, to)
	}
	x.fewer("Set", left)
	x.zero("Set", to, err)
	return to, err
}

// fewer: a call takes one page at most.
func (x *trial) fewer(what string, left int) {
	x.t.Helper()
	if x.s.Left() < left-1 {
		x.t.Fatalf("%s: Left %d, was %d", what, x.s.Left(), left)
	}
}

// zero: with an error every other result is zero.
func (x *trial) zero(what string, n int, err api.Errno) {
	x.t.Helper()
	if err != api.OK && n != 0 {
		x.t.Fatalf("%s: %d beside %v", what, n, err)
	}
}

// reroot makes all roots that are a page another one.
func (x *trial) reroot(n int, to int) {
	if x.now.root == n {
		x.now.root = to
	}
	for i, r := range x.roots {
		if r == n {
			x.roots[i] = to
		}
	}
}

// free takes a page away, by one of the stores.
func (x *trial) free(s *pages.Store, n int) {
	x.t.Helper()
	err := s.Free(n)
	if _, there := x.now.pages[n]; !there {
		x.want("Free", err, api.ErrPagesNone)
		return
	}
	x.want("Free", err, api.OK)
	delete(x.now.pages, n)
	x.reroot(n, 0)
}

// setRoot says which page the root is.
func (x *trial) setRoot(n int) {
	x.t.Helper()
	err := x.s.SetRoot(n)
	if _, there := x.now.pages[n]; n != 0 && !there {
		x.want("SetRoot", err, api.ErrPagesNone)
		return
	}
	x.want("SetRoot", err, api.OK)
	x.now.root = n
}

// see sees the store beside itself.
func (x *trial) see(s *pages.Store, n int) *pages.Store {
	x.t.Helper()
	b, err := s.Beside(n)
	if _, there := x.now.pages[n]; n != 0 && !there {
		x.want("Beside", err, api.ErrPagesNone)
		if b != nil {
			x.t.Fatal("Beside: a store beside an error")
		}
		return nil
	}
	x.want("Beside", err, api.OK)
	x.beside, x.roots = append(x.beside, b), append(x.roots, n)
	return b
}

// setMeta says what the meta is, by one of the stores.
func (x *trial) setMeta(s *pages.Store, meta string) {
	x.t.Helper()
	err := s.SetMeta([]byte(meta))
	if len(meta) > 40+x.d.Size()/16 {
		x.want("SetMeta", err, api.ErrPagesMeta)
		return
	}
	x.want("SetMeta", err, api.OK)
	x.now.meta = meta
}

// isName tells whether a snapshot may have that name.
func isName(name string) bool {
	const letters = "abcdefghijklmnopqrstuvwxyz0123456789-"
	return name != "" && len(name) <= 16 && strings.Trim(name, letters) == ""
}

// snap keeps the committed state, by one of the stores.
func (x *trial) snap(s *pages.Store, name string) api.Errno {
	x.t.Helper()
	err := s.Snap(name)
	_, there := x.now.snaps[name]
	switch {
	case !isName(name) || there:
		x.want("Snap", err, api.ErrPagesName)
	case len(x.now.snaps) == 8:
		x.want("Snap", err, api.ErrPagesMany)
	default:
		x.want("Snap", err, api.OK)
		kept := x.last.copied()
		kept.snaps = nil
		x.now.snaps[name] = kept
	}
	return err
}

// unsnap lets a snapshot go, by one of the stores.
func (x *trial) unsnap(s *pages.Store, name string) {
	x.t.Helper()
	err := s.Unsnap(name)
	if _, there := x.now.snaps[name]; !there {
		x.want("Unsnap", err, api.ErrPagesName)
		return
	}
	x.want("Unsnap", err, api.OK)
	delete(x.now.snaps, name)
}

// next is the state that a Commit would make.
func (x *trial) next() status {
	s := x.now.copied()
	s.gen = x.last.gen + 1
	return s
}

// commit commits by one of the stores.
func (x *trial) commit(s *pages.Store) {
	x.t.Helper()
	x.want("Commit", s.Commit(), api.OK)
	x.last = x.next()
	x.now.gen = x.last.gen
}

// abort takes all changes back, by one of the stores.
func (x *trial) abort(s *pages.Store) {
	x.t.Helper()
	x.want("Abort", s.Abort(), api.OK)
	x.now = x.last.copied()
	for i := range x.roots {
		x.roots[i] = 0
	}
}

// want holds an answered number against the one that is asked.
func (x *trial) want(what string, got api.Errno, asked api.Errno) {
	x.t.Helper()
	want(x.t, what, got, asked)
}

// want holds an answered number against the one that is asked.
func want(t *testing.T, what string, got api.Errno, asked api.Errno) {
	t.Helper()
	if got != asked {
		t.Fatalf("%s: %v, want %v", what, got, asked)
	}
}

// tells holds what a store tells of its state against that, at all numbers.
func tells(t *testing.T, what string, s *pages.Store, asked status, root int) {
	t.Helper()
	if s.Gen() != asked.gen || s.Root() != root || string(s.Meta()) != asked.meta {
		t.Fatalf("%s: Gen %d, Root %d, Meta %q, want %d, %d, %q", what, s.Gen(), s.Root(), s.Meta(), asked.gen, root, asked.meta)
	}
	if !slices.Equal(s.Live(), asked.live()) {
		t.Fatalf("%s: Live %v, want %v", what, s.Live(), asked.live())
	}
	if !slices.Equal(s.Snaps(), asked.names()) {
		t.Fatalf("%s: Snaps %q, want %q", what, s.Snaps(), asked.names())
	}
	top := 2
	for n := range asked.pages {
		top = max(top, n)
	}
	for n := -2; n < top+40; n++ {
		tellsPage(t, what, s, asked, n)
	}
}

// tellsPage holds what Get tells of a number against a state.
func tellsPage(t *testing.T, what string, s *pages.Store, asked status, n int) {
	t.Helper()
	kind, payload, err := s.Get(n)
	p, there := asked.pages[n]
	if !there && (err != api.ErrPagesNone || kind != 0 || len(payload) > 0) {
		t.Fatalf("%s: Get(%d): %v, %q, %v, want ErrPagesNone", what, n, kind, payload, err)
	}
	if there && (err != api.OK || kind != p.kind || string(payload) != p.payload) {
		t.Fatalf("%s: Get(%d): %v, %q, %v, want %v, %q", what, n, kind, payload, err, p.kind, p.payload)
	}
}

// tellsAll holds all that a store and its snapshots tell against a state.
func tellsAll(t *testing.T, what string, s *pages.Store, asked status) {
	t.Helper()
	tells(t, what, s, asked, asked.root)
	for name, snap := range asked.snaps {
		old, err := s.At(name)
		want(t, what+": At", err, api.OK)
		tells(t, what+": the snapshot "+name, old, snap, snap.root)
		if old.Left() != 0 || old.Size() != s.Size() {
			t.Fatalf("%s: of a snapshot Left is %d, Size %d", what, old.Left(), old.Size())
		}
	}
}

// tellsBoth holds what the store tells, those beside it and its snapshots, against the present state and the committed one.
func (x *trial) tellsBoth(what string) {
	x.t.Helper()
	tellsAll(x.t, what, x.s, x.now)
	for i, b := range x.beside {
		tells(x.t, what+": seen beside", b, x.now, x.roots[i])
	}
	last, err := x.s.At("")
	x.want(what+": At of the committed one", err, api.OK)
	bare := x.last.copied()
	bare.snaps = nil
	tells(x.t, what+": the committed one", last, bare, bare.root)
}

// holds holds everything against what must be: what the store tells, its room, the device.
func (x *trial) holds(what string) {
	x.t.Helper()
	x.tellsBoth(what)
	least := x.d.Blocks() - 2 - len(x.inUse()) - reserve(x.d.Blocks())
	if x.s.Left() < max(least, 0) || x.s.Left() > x.d.Blocks()-2-len(x.inUse()) {
		x.t.Fatalf("%s: Left %d, at least %d", what, x.s.Left(), least)
	}
	x.stands(what)
}

// stands holds what stands on the device against the committed state, and what is found there.
func (x *trial) stands(what string) {
	x.t.Helper()
	ahead := uint64(0)
	if x.last.gen > 1 {
		ahead = x.last.gen - 1
	}
	supers(x.t, what, x.d, x.last.gen, ahead)
	onDevice(x.t, what, x.d, x.last)
	for name, snap := range x.last.snaps {
		onDevice(x.t, what+": the snapshot "+name, x.d, snap)
	}
	d := x.d.Copy()
	d.Restart(nil)
	s, found, err := pages.Open(d)
	x.want(what+": Open", err, api.OK)
	spoilt := 0
	if x.last.gen == 1 {
		spoilt = 1
	}
	if asked := (api.Found{Gen: x.last.gen, Used: len(inUse(x.last)), Spoilt: spoilt}); found != asked {
		x.t.Fatalf("%s: found %v, want %v", what, found, asked)
	}
	tellsAll(x.t, what+": opened anew", s, x.last)
}

// supers holds the first two blocks against the generations that they must be of; of 0 one is noughts.
func supers(t *testing.T, what string, d *dev.Dev, gens ...uint64) {
	t.Helper()
	for _, gen := range gens {
		n := int(gen % 2)
		b, err := d.Read(n)
		want(t, what+": Read", err, api.OK)
		if gen == 0 {
			if strings.Trim(string(b), "\x00") != "" {
				t.Fatalf("%s: the block %d is not noughts", what, n)
			}
			continue
		}
		h, _, err := page.Open(b, n)
		if asked := (api.Head{Kind: api.Super, Number: n, Gen: gen}); err != api.OK || h != asked {
			t.Fatalf("%s: the block %d is %v, %v, want %v", what, n, h, err, asked)
		}
	}
}

// onDevice: each page of a state stands in the block of its number.
func onDevice(t *testing.T, what string, d *dev.Dev, s status) {
	t.Helper()
	for n, p := range s.pages {
		b, err := d.Read(n)
		want(t, what+": Read", err, api.OK)
		h, payload, err := page.Open(b, n)
		asked := api.Head{Kind: p.kind, Number: n, Gen: p.born}
		if err != api.OK || h != asked || string(payload) != p.payload {
			t.Fatalf("%s: the block %d: %v, %q, %v, want %v, %q", what, n, h, payload, err, asked, p.payload)
		}
	}
}

// reopen opens the store anew; those that were seen beside it are gone.
func (x *trial) reopen() {
	x.t.Helper()
	s, _, err := pages.Open(x.d)
	x.want("Open", err, api.OK)
	x.s, x.now = s, x.last.copied()
	x.beside, x.roots = nil, nil
}

// dice is a row of numbers that is the same in every run.
type dice uint64

// roll is a number from lo to hi.
func (d *dice) roll(lo int, hi int) int {
	*d = *d*6364136223846793005 + 1442695040888963407
	return lo + int(uint64(*d)>>33)%(hi-lo+1)
}

// one is one of a list; the zero one, if there is none.
func one[T any](d *dice, list []T) T {
	var zero T
	if len(list) == 0 {
		return zero
	}
	return list[d.roll(0, len(list)-1)]
}

// text is bytes of some length.
func (d *dice) text(most int) string {
	b := make([]byte, d.roll(0, most))
	for i := range b {
		b[i] = byte(d.roll(0, 255))
	}
	return string(b)
}
