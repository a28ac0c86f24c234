package cache_test

import (
	"runtime"
	"slices"
	"sync"
	"testing"
	"weak"

	"banyan/api"
	"banyan/cache"
)

// A thing is told as it was put in: it is not copied.
func TestNotCopied(t *testing.T) {
	c := of[[]int](t, 2)
	list := []int{1, 2, 3, 4}
	c.Put(1, list[:2])
	list[0] = 9
	x, is := c.Get(1)
	if !is || len(x) != 2 || cap(x) != 4 || x[0] != 9 || &x[0] != &list[0] {
		t.Errorf("a list: %v %t", x, is)
	}
	x[1] = 8
	if y, _ := c.Get(1); y[1] != 8 || list[1] != 8 {
		t.Error("it was copied")
	}
	pointers := of[*int](t, 2)
	p := new(int)
	pointers.Put(1, p)
	pointers.Pin(1)
	gets(t, pointers, 1, p, true)
	pointers.Unpin(1)
	gets(t, pointers, 1, p, true)
}

// P3: what Numbers answers is the caller's, with its spare room: no cache changes with it, nor another answer.
func TestNumbersAreNew(t *testing.T) {
	for _, places := range []int{1, 3, 7, 100} {
		c, m := made(t, places)
		for n := range places + 2 {
			a, b := c.Numbers(), c.Numbers()
			spoilt := a[:cap(a)]
			for i := range spoilt {
				spoilt[i] = -77
			}
			if !slices.Equal(b, m.numbers()) {
				t.Fatalf("answers share: %v", b)
			}
			stands(t, "its numbers were spoilt", c, m)
			was := m.numbers()
			does(t, c, m, call{put, n, n})
			does(t, c, m, call{get, n / 2, 0})
			if !slices.Equal(b, was) {
				t.Fatalf("an answer changes with the cache: %v, was %v", b, was)
			}
		}
		kept := c.Numbers()
		as := slices.Clone(kept)
		for _, n := range as {
			c.Drop(n)
			c.Put(n+1000, 1)
		}
		if !slices.Equal(kept, as) {
			t.Fatalf("an answer changes with the cache: %v, was %v", kept, as)
		}
	}
}

// P4: caches have nothing to do with one another, of one T or of several, one made amid another's calls.
func TestApart(t *testing.T) {
	a, asked := made(t, 3)
	for n := range 5 {
		does(t, a, asked, call{put, n, n})
		b, fresh := made(t, 2)
		stands(t, "a new one", b, fresh)
		for k := range 4 {
			does(t, b, fresh, call{put, k, -k})
			does(t, b, fresh, call{pin, k, 0})
			does(t, b, fresh, call{get, k + 1, 0})
		}
		b.Drop(n)
		stands(t, "the other one was changed", a, asked)
		cache.New[string](0)
	}
	spent(t, "apart", a, asked)
}

// P4: what several caches answer, each of them used by one hand, does not hang on how the hands run.
func TestHands(t *testing.T) {
	var hands sync.WaitGroup
	answers := make([][]int, 8)
	for i := range answers {
		hands.Go(func() {
			c, err := cache.New[int](9)
			if err != api.OK {
				return
			}
			r := dice(5)
			for step := range 5000 {
				switch n := r.to(20); r.to(4) {
				case 0:
					c.Get(n)
				case 1:
					c.Pin(n)
				case 2:
					c.Unpin(n)
					c.Unpin(n)
				default:
					gone, _ := c.Put(n, step)
					answers[i] = append(answers[i], gone)
				}
			}
			answers[i] = append(answers[i], c.Numbers()...)
		})
	}
	hands.Wait()
	for _, list := range answers {
		if len(list) == 0 || !slices.Equal(list, answers[0]) {
			t.Fatal("the answers are not alike")
		}
	}
}

// What went, was replaced, dropped or refused is not kept; what is there is.
func TestGoneIsNotKept(t *testing.T) {
	c := of[*[64]int](t, 2)
	var gone []weak.Pointer[[64]int]
	given := func() *[64]int {
		x := new([64]int)
		gone = append(gone, weak.Make(x))
		return x
	}
	c.Put(1, given()) // 0: replaced
	c.Put(1, given()) // 1: dropped
	c.Pin(1)
	c.Drop(1)
	c.Put(2, given()) // 2: goes for the next but one
	c.Put(3, given()) // 3: stays, held
	c.Put(4, given()) // 4: stays, held
	c.Pin(3)
	c.Pin(4)
	c.Put(5, given()) // 5: refused
	runtime.GC()
	runtime.GC()
	for i, p := range gone {
		if stays := i == 3 || i == 4; (p.Value() != nil) != stays {
			t.Errorf("the thing %d is kept: %t, want %t", i, p.Value() != nil, stays)
		}
	}
	numbers(t, "two stay", c, 3, 4)
	runtime.KeepAlive(c)
}

// A cache of most places takes up no memory for those that are not used.
func TestEmptyIsSmall(t *testing.T) {
	var before, after runtime.MemStats
	runtime.GC()
	runtime.ReadMemStats(&before)
	var list []*cache.Cache[[1000]byte]
	for range 100 {
		list = append(list, of[[1000]byte](t, api.MaxCache))
	}
	runtime.ReadMemStats(&after)
	if bytes := after.TotalAlloc - before.TotalAlloc; bytes > 1<<20 {
		t.Errorf("%d empty caches take %d bytes", len(list), bytes)
	}
}
