package merge

import (
	"container/heap"

	"banyan/api"
	"banyan/order"
)

// pulled is a telling that is asked for its entries one by one, so that several
// can be gone through side by side.
//
// A goroutine of its own ranges over it, for a loop cannot wait within another
// one. It runs only while somebody waits for it in next or leave: so a thing of
// which several tell is still used by one hand at a time.
type pulled struct {
	place  int            // among those that are gone through together
	ask    chan bool      // true: one more is asked for; closed: it is left
	told   chan api.Entry // closed: there is no more, and nothing of it runs
	entry  api.Entry      // the one that was told last
	failed any            // what it panicked with
}

// pull makes one that is not asked yet. It must be left.
func pull(s Seq, place int) *pulled {
	p := &pulled{place: place, ask: make(chan bool), told: make(chan api.Entry)}
	go p.run(s)
	return p
}

// run ranges over the telling, and waits wherever nobody asks.
func (p *pulled) run(s Seq) {
	defer close(p.told)
	// Here a panic would end the whole program: it is for whoever asks.
	defer func() { p.failed = recover() }()
	if !<-p.ask {
		return
	}
	for key, value := range s {
		p.told <- copied(key, value)
		if !<-p.ask {
			return
		}
	}
}

// next asks for one more entry, and tells whether there is one. Behind the last one nothing may be asked.
func (p *pulled) next() bool {
	p.ask <- true
	e, more := <-p.told
	p.entry = e
	if !more {
		p.panicAgain()
	}
	return more
}

// leave leaves the telling, wherever it is, and answers when nothing of it runs any more.
func (p *pulled) leave() {
	close(p.ask)
	for range p.told {
	}
	p.panicAgain()
}

// panicAgain panics, once, as the telling did.
func (p *pulled) panicAgain() {
	if failed := p.failed; failed != nil {
		p.failed = nil
		panic(failed)
	}
}

// heads are tellings by the entries that they told last, a heap: the least key comes first, of one key the first telling.
type heads []*pulled

func (h heads) Len() int { return len(h) }

func (h heads) Less(i, j int) bool {
	by := order.Compare(h[i].entry.Key, h[j].entry.Key)
	return by < 0 || by == 0 && h[i].place < h[j].place
}

func (h heads) Swap(i, j int) { h[i], h[j] = h[j], h[i] }

func (h *heads) Push(x any) { *h = append(*h, x.(*pulled)) }

func (h *heads) Pop() any {
	last := len(*h) - 1
	p := (*h)[last]
	*h = (*h)[:last]
	return p
}

// take takes all out that tell the least key, in their places' order.
func (h *heads) take() []*pulled {
	var list []*pulled
	for len(*h) > 0 && (len(list) == 0 || order.Compare((*h)[0].entry.Key, list[0].entry.Key) == 0) {
		list = append(list, heap.Pop(h).(*pulled))
	}
	return list
}
