package cache_test

import (
	"math"
	"slices"
	"testing"

	"banyan/api"
	"banyan/cache"
)

// The chapter's examples, in their order.
func TestExamples(t *testing.T) {
	c := of[string](t, 2)
	puts(t, c, 1, "a", 0, false)
	puts(t, c, 2, "b", 0, false)
	gets(t, c, 1, "a", true)
	puts(t, c, 3, "c", 2, true)
	numbers(t, "two went", c, 1, 3)
	gets(t, c, 2, "", false)
	says(t, "Pin(1)", c.Pin(1), true)
	puts(t, c, 4, "d", 3, true)
	says(t, "Pin(4)", c.Pin(4), true)
	puts(t, c, 5, "e", 5, true)
	says(t, "Unpin(1)", c.Unpin(1), true)
	says(t, "Unpin(1) again", c.Unpin(1), false)
	puts(t, c, 5, "e", 1, true)
	puts(t, c, 4, "f", 0, false)
	numbers(t, "four is last", c, 5, 4)
	if hits, misses := c.Hits(); hits != 1 || misses != 1 {
		t.Errorf("Hits: %d %d, want 1 1", hits, misses)
	}
	says(t, "Drop(4)", c.Drop(4), true)
	says(t, "Drop(4) again", c.Drop(4), false)
	says(t, "Unpin(4)", c.Unpin(4), false)
	for _, places := range []int{0, 65537} {
		if c, err := cache.New[string](places); c != nil || err != api.ErrArg {
			t.Errorf("New(%d): %v %v", places, c, err)
		}
	}
}

// New: 1 to 65536 places; what it makes is empty.
func TestNew(t *testing.T) {
	for _, places := range []int{0, -1, -2, -65536, 65537, 65538, 1 << 17, 1 << 31, 1 << 32, 1<<32 + 1, math.MaxInt, math.MinInt, math.MinInt + 1} {
		if c, err := cache.New[int](places); c != nil || err != api.ErrArg {
			t.Errorf("New(%d): %v %v, want ErrArg", places, c, err)
		}
	}
	for _, places := range []int{1, 2, 3, 255, 256, 32768, 65535, 65536} {
		c, m := made(t, places)
		stands(t, "a new one", c, m)
		for _, n := range anyInts {
			for kind := range calls {
				if kind != put {
					does(t, c, m, call{kind, n, 0})
				}
			}
		}
		stands(t, "a new one that was asked", c, m)
	}
}

// As many as places are put in, and no more, at every number of places that is near a limit.
func TestPlaces(t *testing.T) {
	for _, places := range []int{1, 2, 3, 7, 8, 9, 1000, 65535, 65536} {
		c := of[int](t, places)
		for n := range places {
			puts(t, c, n, n, 0, false)
		}
		for n := range places {
			puts(t, c, places+n, n, n, true)
			if c.Count() != places {
				t.Fatalf("Count: %d of %d places", c.Count(), places)
			}
		}
		list := c.Numbers()
		for i, n := range list {
			if n != places+i {
				t.Fatalf("%d stands at %d of %d places", n, i, places)
			}
		}
	}
}

// All runs of four calls behind a first Put, on caches of one and of two places, with three numbers; then all is asked that can be.
func TestAllRuns(t *testing.T) {
	const length = 4
	numbers := []int{0, -7, math.MaxInt}
	kinds := calls * len(numbers)
	all := 1
	for range length {
		all *= kinds
	}
	for _, places := range []int{1, 2} {
		for run := range all {
			c, m := made(t, places)
			does(t, c, m, call{put, numbers[0], 100})
			for rest, i := run, 0; i < length; rest, i = rest/kinds, i+1 {
				does(t, c, m, call{rest % kinds / len(numbers), numbers[rest%len(numbers)], i + 1})
			}
			spent(t, "a run", c, m)
		}
	}
}

// All ways in which three of four things are pinned, used and unpinned ahead of each Put that follows.
func TestThreePlaces(t *testing.T) {
	for run := range 1 << 15 {
		c, m := made(t, 3)
		for bit, n := 0, 0; bit < 15; bit, n = bit+3, n+1 {
			for i, kind := range []int{pin, get, unpin} {
				if run>>(bit+i)&1 == 1 {
					does(t, c, m, call{kind, n / 2, 0})
				}
			}
			does(t, c, m, call{put, n, 10 * n})
			does(t, c, m, call{pin, n % 3, 0})
			stands(t, "a step", c, m)
		}
		spent(t, "a run", c, m)
	}
}

// Long runs of calls that are thrown, by several weights, held against the chapter's words behind every call.
func TestLongRuns(t *testing.T) {
	weights := [][calls]int{
		{5, 5, 1, 1, 1}, // mostly used
		{2, 5, 0, 3, 3}, // held and let go
		{1, 5, 0, 4, 1}, // mostly held
		{1, 3, 1, 4, 8}, // unpinned more often than pinned
		{0, 5, 5, 1, 1}, // mostly dropped
		{5, 5, 0, 0, 0}, // never held nor dropped
	}
	r := dice(7)
	for _, places := range []int{1, 2, 3, 4, 5, 8, 20, 60} {
		for _, w := range weights {
			c, m := made(t, places)
			for step := range 4000 {
				kind, at := 0, r.to(w[0]+w[1]+w[2]+w[3]+w[4])
				for at >= w[kind] {
					at -= w[kind]
					kind++
				}
				does(t, c, m, call{kind, r.to(places*2) - places, step})
				stands(t, "a step", c, m)
			}
			spent(t, "a long run", c, m)
		}
	}
}

// Any int is a number: none is another one, and none stands for 'nothing'.
func TestAnyNumbers(t *testing.T) {
	c, m := made(t, len(anyInts))
	for i, n := range anyInts {
		does(t, c, m, call{put, n, i})
		does(t, c, m, call{pin, n, 0})
	}
	stands(t, "all put", c, m)
	for _, n := range anyInts {
		does(t, c, m, call{get, n, 0})
		does(t, c, m, call{get, n ^ 1<<40, 0})
		does(t, c, m, call{put, n ^ 1<<40, 9}) // all are held: it goes itself, whatever it is
	}
	for _, n := range anyInts {
		does(t, c, m, call{unpin, n, 0})
	}
	for _, n := range anyInts {
		does(t, c, m, call{put, n ^ 1<<41, 9}) // each goes for one, 0 as well
	}
	spent(t, "any numbers", c, m)
}

// Get: it is told, and stands last then, wherever it stood; what is not there changes nothing but Hits.
func TestGet(t *testing.T) {
	for at := range 4 {
		c := of[int](t, 4)
		for n := range 4 {
			c.Put(n, 10+n)
		}
		gets(t, c, at, 10+at, true)
		want := append(slices.Delete([]int{0, 1, 2, 3}, at, at+1), at)
		numbers(t, "one was told", c, want...)
		gets(t, c, at, 10+at, true)
		numbers(t, "it was told again", c, want...)
		gets(t, c, 4, 0, false)
		gets(t, c, -1, 0, false)
		numbers(t, "none was told", c, want...)
		if hits, misses := c.Hits(); hits != 2 || misses != 2 {
			t.Fatalf("Hits: %d %d, want 2 2", hits, misses)
		}
	}
}

// Hits counts Gets alone, and what was told stays counted when the thing goes.
func TestHits(t *testing.T) {
	c := of[int](t, 2)
	c.Put(1, 1)
	c.Put(1, 2)
	c.Pin(1)
	c.Unpin(1)
	c.Pin(9)
	c.Drop(9)
	c.Numbers()
	c.Count()
	for i := range 5 {
		if hits, misses := c.Hits(); hits != i || misses != 2*i {
			t.Fatalf("Hits: %d %d, want %d %d", hits, misses, i, 2*i)
		}
		c.Get(1)
		c.Get(2)
		c.Get(3)
	}
	c.Drop(1)
	c.Put(2, 2)
	if hits, misses := c.Hits(); hits != 5 || misses != 10 {
		t.Fatalf("Hits: %d %d, want 5 10", hits, misses)
	}
}

// Put of a number that is there: it is replaced, stands last, stays pinned as often as it was, and nothing goes, however full it is.
func TestPutThere(t *testing.T) {
	for pins := range 4 {
		c := of[string](t, 3)
		for n := range 3 {
			puts(t, c, n, "old", 0, false)
			if n != 0 {
				c.Pin(n)
			}
		}
		for range pins {
			c.Pin(0)
		}
		puts(t, c, 0, "new", 0, false)
		numbers(t, "replaced", c, 1, 2, 0)
		gets(t, c, 0, "new", true)
		for range pins {
			puts(t, c, 7, "x", 7, true)
			says(t, "Unpin", c.Unpin(0), true)
		}
		says(t, "Unpin once too often", c.Unpin(0), false)
		puts(t, c, 7, "x", 0, true)
		numbers(t, "it went", c, 1, 2, 7)
		gets(t, c, 1, "old", true)
	}
}

// Put, where there is room: it comes last, not held, also when all others are, and where one was dropped.
func TestPutRoom(t *testing.T) {
	c := of[int](t, 3)
	puts(t, c, 5, 50, 0, false)
	c.Pin(5)
	puts(t, c, 3, 30, 0, false)
	numbers(t, "two", c, 5, 3)
	says(t, "Unpin of a new one", c.Unpin(3), false)
	puts(t, c, 4, 40, 0, false)
	c.Pin(4)
	c.Drop(5)
	puts(t, c, 9, 90, 0, false)
	numbers(t, "in the room of one that was dropped", c, 3, 4, 9)
	puts(t, c, 5, 51, 3, true)
	puts(t, c, 3, 31, 9, true)
	numbers(t, "two went", c, 4, 5, 3)
}

// Put, where all are held: it goes itself, nothing else changes, and it is not there; one that is let go, wherever it stands, makes room.
func TestPutAllHeld(t *testing.T) {
	for at := range 5 {
		c, m := made(t, 5)
		for n := range 5 {
			does(t, c, m, call{put, n, 10 + n})
			does(t, c, m, call{pin, n, 0})
		}
		for _, n := range []int{5, 6, -3, math.MinInt} {
			puts(t, c, n, 99, n, true)
			puts(t, c, n, 99, n, true)
			stands(t, "it went itself", c, m)
			does(t, c, m, call{get, n, 0})
			does(t, c, m, call{pin, n, 0})
		}
		does(t, c, m, call{get, at, 0})
		puts(t, c, 7, 70, 7, true)
		does(t, c, m, call{unpin, at, 0})
		puts(t, c, 7, 70, at, true)
		m.put(7, 70)
		does(t, c, m, call{pin, 7, 0})
		does(t, c, m, call{put, 8, 80})
		spent(t, "one was let go", c, m)
	}
}

// Put, where some are held: the first one that is not goes, by all ways to hold some of six; those behind it stay.
func TestPutSomeHeld(t *testing.T) {
	for held := range 1 << 6 {
		c, m := made(t, 6)
		for n := range 6 {
			does(t, c, m, call{put, n, n})
		}
		for n := range 6 {
			if held>>n&1 == 1 {
				does(t, c, m, call{pin, n, 0})
			}
		}
		for n := range 8 {
			does(t, c, m, call{put, 10 + n, n})
			stands(t, "some are held", c, m)
		}
		// Let go from the last one on, so that one ahead of the one that would go next is let go each time.
		for n := 5; n >= 0; n-- {
			does(t, c, m, call{unpin, n, 0})
			if n%2 == 0 {
				does(t, c, m, call{put, 20 + n, n})
			}
		}
		spent(t, "some were held", c, m)
	}
}

// One that stands ahead is let go when others, behind it, were found already: it goes first; those between them stay held.
func TestLetGoAhead(t *testing.T) {
	c := of[int](t, 5)
	for n := range 5 {
		c.Put(n, n)
	}
	for n := range 4 {
		c.Pin(n)
	}
	puts(t, c, 10, 10, 4, true)
	c.Unpin(2)
	c.Unpin(1)
	c.Unpin(3)
	puts(t, c, 11, 11, 1, true)
	c.Pin(2)
	puts(t, c, 12, 12, 3, true)
	c.Unpin(2)
	puts(t, c, 13, 13, 2, true)
	numbers(t, "all but the first one went", c, 0, 10, 11, 12, 13)
	puts(t, c, 14, 14, 10, true)
	c.Unpin(0)
	c.Get(0)
	puts(t, c, 15, 15, 11, true)
	numbers(t, "the first one was told", c, 12, 13, 14, 0, 15)
}

// Drop: held or not, wherever it stands, with all its pins: put in anew it is not held, and new.
func TestDrop(t *testing.T) {
	for at := range 4 {
		for pins := range 3 {
			c := of[int](t, 4)
			for n := range 4 {
				c.Put(n, n+10)
			}
			for range pins {
				c.Pin(at)
			}
			says(t, "Drop", c.Drop(at), true)
			left := slices.Delete([]int{0, 1, 2, 3}, at, at+1)
			numbers(t, "dropped", c, left...)
			says(t, "Drop again", c.Drop(at), false)
			says(t, "Pin of none", c.Pin(at), false)
			says(t, "Unpin of none", c.Unpin(at), false)
			gets(t, c, at, 0, false)
			puts(t, c, at, 77, 0, false)
			numbers(t, "put in anew", c, append(left, at)...)
			says(t, "Unpin of one that is new", c.Unpin(at), false)
			gets(t, c, at, 77, true)
			for _, n := range append(left, at) {
				puts(t, c, n+100, 0, n, true)
			}
		}
	}
}

// Drop of the only one, of all that are held, of one beside the one that goes next.
func TestDropAll(t *testing.T) {
	c := of[int](t, 1)
	for n := range 5 {
		puts(t, c, n, n, 0, false)
		c.Pin(n)
		puts(t, c, 9, 9, 9, true)
		says(t, "Drop", c.Drop(n), true)
		numbers(t, "empty", c)
	}
	c = of[int](t, 3)
	for n := range 3 {
		c.Put(n, n)
		c.Pin(n)
	}
	puts(t, c, 9, 9, 9, true)
	c.Drop(1)
	puts(t, c, 9, 9, 0, false)
	puts(t, c, 8, 8, 9, true)
	c.Drop(8)
	c.Drop(0)
	c.Drop(2)
	numbers(t, "all dropped", c)
	puts(t, c, 4, 4, 0, false)
	numbers(t, "one anew", c, 4)
}

// Pin and Unpin: held until it is unpinned as often as it was pinned, and no more; neither changes the order, nor Hits.
func TestPins(t *testing.T) {
	for _, times := range []int{1, 2, 3, 10, 1000, 100000} {
		c := of[int](t, 2)
		c.Put(1, 1)
		c.Put(2, 2)
		for range times {
			says(t, "Pin", c.Pin(1), true)
		}
		for range times {
			numbers(t, "pinned", c, 1, 2)
			puts(t, c, 3, 3, 2, true)
			puts(t, c, 2, 2, 3, true)
			says(t, "Unpin", c.Unpin(1), true)
		}
		says(t, "Unpin once too often", c.Unpin(1), false)
		says(t, "Unpin once too often, again", c.Unpin(1), false)
		numbers(t, "unpinned", c, 1, 2)
		says(t, "Pin again", c.Pin(1), true)
		puts(t, c, 3, 3, 2, true)
		says(t, "Unpin of it", c.Unpin(1), true)
		puts(t, c, 4, 4, 1, true)
		if hits, misses := c.Hits(); hits != 0 || misses != 0 {
			t.Fatalf("Hits: %d %d, want 0 0", hits, misses)
		}
	}
}

// The order is that of use, of things that are held as well: let go they stand where they were used last.
func TestHeldOnesStandInOrder(t *testing.T) {
	c := of[int](t, 4)
	for n := range 4 {
		c.Put(n, n)
	}
	c.Pin(1)
	c.Pin(2)
	c.Get(1)
	numbers(t, "a held one was told", c, 0, 2, 3, 1)
	c.Put(2, 22)
	numbers(t, "a held one was replaced", c, 0, 3, 1, 2)
	c.Unpin(2)
	c.Unpin(1)
	numbers(t, "both let go", c, 0, 3, 1, 2)
	for i, n := range []int{0, 3, 1, 2} {
		puts(t, c, 10+i, 0, n, true)
	}
}

// A zero T where there is none; what is put in may be one, and is told with true.
func TestZeroThings(t *testing.T) {
	lists := of[[]byte](t, 1)
	if x, is := lists.Get(0); x != nil || is {
		t.Errorf("no list: %v %t", x, is)
	}
	lists.Put(0, nil)
	if x, is := lists.Get(0); x != nil || !is {
		t.Errorf("a nil list: %v %t", x, is)
	}
	lists.Put(0, []byte{})
	if x, is := lists.Get(0); x == nil || len(x) != 0 || !is {
		t.Errorf("an empty list: %v %t", x, is)
	}
	pointers := of[*int](t, 1)
	gets(t, pointers, 1, nil, false)
	puts(t, pointers, 1, nil, 0, false)
	gets(t, pointers, 1, nil, true)
	puts(t, pointers, 2, new(int), 1, true)
	gets(t, pointers, 1, nil, false)
	nothings := of[struct{}](t, 2)
	puts(t, nothings, 1, struct{}{}, 0, false)
	puts(t, nothings, 2, struct{}{}, 0, false)
	puts(t, nothings, 3, struct{}{}, 1, true)
	gets(t, nothings, 2, struct{}{}, true)
	numbers(t, "things of no bytes", nothings, 3, 2)
	kids := of[api.Kids](t, 1)
	if x, is := kids.Get(3); x.Pages != nil || x.Keys != nil || is {
		t.Errorf("no struct: %v %t", x, is)
	}
	anything := of[any](t, 2)
	gets(t, anything, 1, nil, false)
	puts(t, anything, 1, 2.5, 0, false)
	puts(t, anything, 2, "two", 0, false)
	gets(t, anything, 1, any(2.5), true)
	functions := of[func() int](t, 1)
	functions.Put(1, func() int { return 41 })
	if f, is := functions.Get(1); !is || f() != 41 {
		t.Error("a function")
	}
	if f, is := functions.Get(2); is || f != nil {
		t.Error("no function")
	}
	caches := of[*cache.Cache[int]](t, 1)
	caches.Put(1, of[int](t, 1))
	if inner, is := caches.Get(1); !is || inner.Count() != 0 {
		t.Error("a cache of caches")
	}
}

// P12.1: where nothing is held or dropped, the things are the last numbers that were told or put in.
func TestLastOnes(t *testing.T) {
	r := dice(121)
	for _, places := range []int{1, 2, 3, 5, 10, 33} {
		for _, span := range []int{1, 2, places, places + 1, 2 * places, 5 * places} {
			c := of[int](t, places)
			var used []int // of the numbers that were told or put in, the last use is the last one of this list
			for step := range 600 {
				n := r.to(span)
				if r.to(3) > 0 {
					c.Put(n, step)
					used = append(used, n)
				} else if _, told := c.Get(n); told {
					used = append(used, n)
				}
				numbers(t, "the last ones", c, lastOnes(used, places)...)
			}
		}
	}
}

// lastOnes are the last unlike ones of a list, so many at most, in their order.
func lastOnes(list []int, most int) []int {
	var last []int
	for i := len(list) - 1; i >= 0 && len(last) < most; i-- {
		if !slices.Contains(last, list[i]) {
			last = append(last, list[i])
		}
	}
	slices.Reverse(last)
	return last
}

// P12.2: what is held is told by every Get, with what was put in last of its number, whatever else is put in, until it is dropped.
func TestHeld(t *testing.T) {
	r := dice(122)
	for _, places := range []int{1, 2, 3, 10} {
		c := of[int](t, places)
		held := map[int]int{} // what was put in last of those that are held
		for step := range 20000 {
			n := r.to(3 * places)
			_, is := held[n]
			switch r.to(8) {
			case 0:
				if c.Pin(n) && !is {
					held[n], _ = c.Get(n)
				} else if is {
					c.Unpin(n) // pinned twice
				}
			case 1:
				if is {
					says(t, "Unpin", c.Unpin(n), true)
					delete(held, n)
				}
			case 2:
				if r.to(5) == 0 {
					says(t, "Drop of a held one", c.Drop(n) || !is, true)
					delete(held, n)
				}
			default:
				gone, went := c.Put(n, step)
				if _, is := held[gone]; is && went {
					t.Fatalf("%d went, which is held", gone)
				}
				if is {
					held[n] = step
				}
			}
			for n, x := range held {
				gets(t, c, n, x, true)
			}
		}
	}
}

// P12.3: no more things than places; with more places, and nothing held, Get tells a thing wherever it does with fewer.
func TestMorePlaces(t *testing.T) {
	r := dice(123)
	for _, span := range []int{2, 5, 9, 20} {
		var caches []*cache.Cache[int]
		for places := 1; places <= 12; places++ {
			caches = append(caches, of[int](t, places))
		}
		for step := range 5000 {
			kind, n, told := r.to(8), r.to(span), false
			for i, c := range caches {
				switch {
				case kind == 0:
					c.Drop(n)
				case kind < 4:
					c.Put(n, step)
				default:
					_, is := c.Get(n)
					if told && !is {
						t.Fatalf("%d places do not tell %d, which %d do", i+1, n, i)
					}
					told = is
				}
				if c.Count() > i+1 {
					t.Fatalf("%d things in %d places", c.Count(), i+1)
				}
			}
		}
	}
}

// P1: all places are used, and nearly all are held: every Put finds the one that goes, and does not go by all of them for that.
func TestManyHeld(t *testing.T) {
	c := of[int](t, api.MaxCache)
	for n := range api.MaxCache {
		puts(t, c, n, n, 0, false)
		says(t, "Pin", c.Pin(n), true)
	}
	for n := range api.MaxCache {
		puts(t, c, -1-n, n, -1-n, true)
	}
	says(t, "Unpin", c.Unpin(40000), true)
	puts(t, c, 100000, 1, 40000, true)
	for n := range api.MaxCache {
		puts(t, c, 100001+n, n, 100000+n, true)
	}
	for n := api.MaxCache - 1; n >= 0; n-- {
		says(t, "Unpin", c.Unpin(n), n != 40000)
	}
	gone := 0
	for n := range api.MaxCache - 1 {
		if n == 40000 {
			gone++
		}
		puts(t, c, 300000+n, n, gone, true)
		gone++
	}
}
