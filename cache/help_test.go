package cache_test

import (
	"math"
	"slices"
	"testing"

	"banyan/api"
	"banyan/cache"
)

// anyInts are numbers that things may have: any.
var anyInts = []int{0, 1, -1, 2, 65535, 65536, 65537, 1 << 31, -1 << 31, 1 << 32, math.MaxInt, math.MinInt, math.MinInt + 1}

// thing is one of a model.
type thing struct {
	number, x, pins int
}

// model is a cache as the chapter's words tell it: things in their order.
type model struct {
	places, hits, misses int
	things               []thing
}

// at is where the thing of a number stands; -1: there is none.
func (m *model) at(n int) int {
	return slices.IndexFunc(m.things, func(x thing) bool { return x.number == n })
}

// last lets the thing at i stand last.
func (m *model) last(i int) {
	x := m.things[i]
	m.things = append(slices.Delete(m.things, i, i+1), x)
}

func (m *model) get(n int) (int, bool) {
	i := m.at(n)
	if i < 0 {
		m.misses++
		return 0, false
	}
	m.hits++
	x := m.things[i].x
	m.last(i)
	return x, true
}

func (m *model) put(n int, x int) (int, bool) {
	if i := m.at(n); i >= 0 {
		m.things[i].x = x
		m.last(i)
		return 0, false
	}
	if len(m.things) < m.places {
		m.things = append(m.things, thing{number: n, x: x})
		return 0, false
	}
	i := slices.IndexFunc(m.things, func(x thing) bool { return x.pins == 0 })
	if i < 0 {
		return n, true
	}
	gone := m.things[i].number
	m.things = append(slices.Delete(m.things, i, i+1), thing{number: n, x: x})
	return gone, true
}

func (m *model) drop(n int) bool {
	i := m.at(n)
	if i < 0 {
		return false
	}
	m.things = slices.Delete(m.things, i, i+1)
	return true
}

func (m *model) pin(n int) bool {
	i := m.at(n)
	if i < 0 {
		return false
	}
	m.things[i].pins++
	return true
}

func (m *model) unpin(n int) bool {
	i := m.at(n)
	if i < 0 || m.things[i].pins == 0 {
		return false
	}
	m.things[i].pins--
	return true
}

func (m *model) numbers() []int {
	var list []int
	for _, x := range m.things {
		list = append(list, x.number)
	}
	return list
}

// The calls that change a cache.
const (
	get = iota
	put
	drop
	pin
	unpin
	calls
)

// call is one of them; x is what is put in.
type call struct {
	kind, n, x int
}

func (a call) String() string {
	return []string{"Get", "Put", "Drop", "Pin", "Unpin"}[a.kind]
}

// made is a cache of so many places, and a model of it.
func made(t *testing.T, places int) (*cache.Cache[int], *model) {
	t.Helper()
	c, err := cache.New[int](places)
	if c == nil || err != api.OK {
		t.Fatalf("New(%d): %v", places, err)
	}
	return c, &model{places: places}
}

// does does a call on both and holds the answers against each other.
func does(t *testing.T, c *cache.Cache[int], m *model, a call) {
	t.Helper()
	var got, asked int
	var is, should bool
	switch a.kind {
	case get:
		got, is = c.Get(a.n)
		asked, should = m.get(a.n)
	case put:
		got, is = c.Put(a.n, a.x)
		asked, should = m.put(a.n, a.x)
	case drop:
		is, should = c.Drop(a.n), m.drop(a.n)
	case pin:
		is, should = c.Pin(a.n), m.pin(a.n)
	case unpin:
		is, should = c.Unpin(a.n), m.unpin(a.n)
	}
	if got != asked || is != should {
		t.Fatalf("%v(%d): %d %t, want %d %t; places %d, things %.300v", a, a.n, got, is, asked, should, m.places, m.things)
	}
}

// stands holds what can be asked without a change against the model.
func stands(t *testing.T, what string, c *cache.Cache[int], m *model) {
	t.Helper()
	hits, misses := c.Hits()
	if hits != m.hits || misses != m.misses {
		t.Fatalf("%s: Hits: %d %d, want %d %d", what, hits, misses, m.hits, m.misses)
	}
	if c.Count() != len(m.things) {
		t.Fatalf("%s: Count: %d, want %d", what, c.Count(), len(m.things))
	}
	if list := c.Numbers(); !slices.Equal(list, m.numbers()) {
		t.Fatalf("%s: Numbers: %.300v, want %.300v", what, list, m.numbers())
	}
}

// spent asks all that is left to be asked, and leaves the cache empty: which ones are held, and how often; what they are.
func spent(t *testing.T, what string, c *cache.Cache[int], m *model) {
	t.Helper()
	stands(t, what, c, m)
	fresh := 1000000
	for range m.places + 1 { // which ones go, and in which order
		does(t, c, m, call{put, fresh, -fresh})
		fresh++
	}
	stands(t, what, c, m)
	for _, n := range m.numbers() {
		does(t, c, m, call{get, n, 0})
		for m.things[m.at(n)].pins > 0 {
			does(t, c, m, call{unpin, n, 0})
		}
		does(t, c, m, call{unpin, n, 0})
	}
	for _, n := range m.numbers() {
		does(t, c, m, call{drop, n, 0})
		does(t, c, m, call{get, n, 0})
	}
	stands(t, what, c, m)
	if c.Count() != 0 {
		t.Fatalf("%s: %d are left", what, c.Count())
	}
}

// dice throws numbers that are the same in every run.
type dice uint64

func (r *dice) to(n int) int {
	*r = *r*6364136223846793005 + 1442695040888963407
	return int(uint64(*r) >> 33 % uint64(n))
}

// numbers asks a cache of whatever things for its numbers.
func numbers[T any](t *testing.T, what string, c *cache.Cache[T], want ...int) {
	t.Helper()
	if list := c.Numbers(); !slices.Equal(list, want) || c.Count() != len(want) {
		t.Fatalf("%s: Numbers %.300v, Count %d, want %.300v", what, list, c.Count(), want)
	}
}

// puts puts a thing in and says what must go.
func puts[T any](t *testing.T, c *cache.Cache[T], n int, x T, gone int, went bool) {
	t.Helper()
	if g, w := c.Put(n, x); g != gone || w != went {
		t.Fatalf("Put(%d): %d %t, want %d %t", n, g, w, gone, went)
	}
}

// gets gets a thing and says what it must be.
func gets[T comparable](t *testing.T, c *cache.Cache[T], n int, x T, is bool) {
	t.Helper()
	if y, there := c.Get(n); y != x || there != is {
		t.Fatalf("Get(%d): %v %t, want %v %t", n, y, there, x, is)
	}
}

// says holds a bool against what it must be.
func says(t *testing.T, what string, got bool, want bool) {
	t.Helper()
	if got != want {
		t.Fatalf("%s: %t, want %t", what, got, want)
	}
}

// of is an empty cache.
func of[T any](t *testing.T, places int) *cache.Cache[T] {
	t.Helper()
	c, err := cache.New[T](places)
	if c == nil || err != api.OK {
		t.Fatalf("New(%d): %v", places, err)
	}
	return c
}
