package merge_test

import (
	"fmt"
	"runtime"
	"testing"
	"time"

	"banyan/api"
	"banyan/merge"
)

// made are tellings of every kind, each made of watched ones that a single hand must use.
type made struct {
	what  string
	s     merge.Seq
	parts []*watched
}

// makings makes some of every kind, of the keys a to j.
func makings() []made {
	var list []made
	add := func(what string, count int, by func(l []merge.Seq) merge.Seq) {
		busy := new(bool)
		var parts []*watched
		var l []merge.Seq
		for i := range count {
			w := watch(nil)
			w.busy = busy
			for k := 'a'; k <= 'j'; k++ {
				if count == 1 || int(k)%(i+1) == 0 {
					w.list = append(w.list, entry(string(k), fmt.Sprint(i)))
				}
			}
			parts, l = append(parts, w), append(l, w.seq)
		}
		list = append(list, made{what, by(l), parts})
	}
	add("Union of one", 1, merge.Union)
	add("Union of two", 2, merge.Union)
	add("Union of five", 5, merge.Union)
	add("Union of Unions", 4, func(l []merge.Seq) merge.Seq {
		return merge.Union([]merge.Seq{merge.Union(l[:2]), nil, merge.Union(l[2:])})
	})
	m := []api.Msg{put("bb", "new"), put("c", "new"), del("e"), cut("f", "hh"), put("g", "new"), put("z", "new")}
	add("With", 1, func(l []merge.Seq) merge.Seq { return merge.With(l[0], m) })
	add("With by none", 1, func(l []merge.Seq) merge.Seq { return merge.With(l[0], nil) })
	add("Within", 1, func(l []merge.Seq) merge.Seq { return merge.Within(l[0], span("c", "h")) })
	add("Within of all", 1, func(l []merge.Seq) merge.Seq { return merge.Within(l[0], from("")) })
	add("Check", 1, func(l []merge.Seq) merge.Seq { return merge.Check(l[0], nil) })
	add("all of them", 3, func(l []merge.Seq) merge.Seq {
		return merge.Check(merge.Within(merge.With(merge.Union([]merge.Seq{merge.With(l[0], m[:1]), merge.Union(l[1:])}), m), from("b")), new(api.Errno))
	})
	return list
}

// asked is for how many entries the parts were asked in all; running how many of them are being ranged over.
func (x made) asked() (n int) {
	for _, w := range x.parts {
		n += w.asked
	}
	return n
}

func (x made) running() (n int) {
	for _, w := range x.parts {
		n += w.running
	}
	return n
}

// P13.5: nothing is asked ahead of the loop; a loop that is left, wherever, asks for no more; nothing runs behind it; each part is ranged over once.
func TestLeft(t *testing.T) {
	for at := range 14 {
		for _, x := range makings() {
			if x.asked() > 0 || x.parts[0].begun > 0 {
				t.Fatalf("%s: asked ahead of the loop", x.what)
			}
			n, asked := 0, 0
			for range x.s {
				n++
				asked = x.asked()
				if n > at {
					break
				}
			}
			if n > at && x.asked() != asked {
				t.Errorf("%s: left at %d, and asked for %d more", x.what, at, x.asked()-asked)
			}
			for _, w := range x.parts {
				if w.begun != 1 || w.running != 0 {
					t.Errorf("%s: left at %d: ranged over %d times, %d run", x.what, at, w.begun, w.running)
				}
			}
		}
	}
}

// How far a telling is asked: when a key is told, no more than to the first entry behind it.
func TestNotGathered(t *testing.T) {
	for _, x := range makings() {
		for key := range x.s {
			for _, w := range x.parts {
				next := 1 // the first one behind the key
				for _, e := range w.list {
					if string(e.Key) <= string(key) {
						next++
					}
				}
				if w.asked > next {
					t.Errorf("%s: %q is told, and %d were asked for, not %d", x.what, key, w.asked, next)
				}
			}
		}
	}
}

// Tellings without an end: what is told is told, and the loop can be left.
func TestEndless(t *testing.T) {
	asked := 0
	even, odd := endless(0, 2, &asked), endless(1, 2, &asked)
	both := merge.Union([]merge.Seq{even, odd, even})
	for i, s := range []merge.Seq{both, merge.With(both, []api.Msg{cut("000000100", "000000200"), put("000000150", "x")}), merge.Check(both, nil), merge.Within(both, from(""))} {
		asked = 0
		if l := merge.All(s, 1000); len(l) != 1000 || !rises(l) || asked > 2000 {
			t.Errorf("%d: %d told, asked for %d", i, len(l), asked)
		}
	}
	if l := merge.All(merge.Within(both, span("000000010", "000000020")), -1); len(l) != 10 {
		t.Errorf("Within: %s", show(l))
	}
	asked = 0
	if merge.Same(even, odd) || merge.Same(even, nil) || merge.Same(nil, even) || merge.Same(even, merge.With(even, []api.Msg{del("000000010")})) || asked > 30 {
		t.Errorf("Same, asked for %d", asked)
	}
}

// P6: it may be ranged over again, also within its own loop, at every place, left or not; the outer loop goes on as if nothing had been.
func TestWithinItself(t *testing.T) {
	for _, x := range makings() {
		want := told(x.s)
		var list []api.Entry
		n := 0
		for key, value := range x.s {
			list = append(list, entry(string(key), string(value)))
			if got := told(x.s); got != want {
				t.Fatalf("%s, within itself: %s, not %s", x.what, got, want)
			}
			n++
			inner := 0
			for range x.s {
				inner++
				if inner == n {
					break
				}
			}
		}
		if show(list) != want || x.running() != 0 {
			t.Errorf("%s, around itself: %s, not %s", x.what, show(list), want)
		}
	}
}

// What a telling tells is what there is when it is ranged over.
func TestToldAnew(t *testing.T) {
	w := watch(entries("a=1"))
	l := []merge.Seq{merge.Union([]merge.Seq{w.seq, nil}), merge.With(w.seq, nil), merge.Within(w.seq, from("")), merge.Check(w.seq, nil)}
	for _, now := range []string{"a=1", "a=2 b=3", "", "c=4"} {
		w.list = entries(now)
		for _, s := range l {
			tells(t, "told anew", s, w.list)
		}
	}
}

// A loop that is left by a panic, or whose goroutine ends within it, leaves what it ranges over.
func TestLoopBreaksOff(t *testing.T) {
	for _, x := range makings() {
		func() {
			defer func() {
				if got := recover(); got != "enough" {
					t.Errorf("%s: a panic of the loop became %v", x.what, got)
				}
			}()
			for range x.s {
				panic("enough")
			}
		}()
		done := make(chan bool)
		go func() {
			defer close(done)
			for range x.s {
				runtime.Goexit()
			}
		}()
		<-done
		if x.running() != 0 {
			t.Errorf("%s: %d run", x.what, x.running())
		}
	}
}

// failing tells some of a list, then panics; or panics when it is left.
func failing(l []api.Entry, whenLeft bool) merge.Seq {
	return func(yield func([]byte, []byte) bool) {
		for _, e := range l {
			if !yield(e.Key, e.Value) {
				if whenLeft {
					panic("left badly")
				}
				return
			}
		}
		if !whenLeft {
			panic("no more")
		}
	}
}

// A telling that panics does so to whoever ranges over what is made of it, and the others are left.
func TestTellingPanics(t *testing.T) {
	for _, x := range []struct {
		what string
		bad  merge.Seq
	}{{"no more", failing(nil, false)}, {"no more", failing(entries("b=1"), false)}, {"left badly", failing(entries("b=1 c=2"), true)}} {
		for place := range 3 {
			good := []*watched{watch(entries("a=1 b=2 d=3")), watch(entries("c=1 e=5"))}
			l := []merge.Seq{good[0].seq, good[1].seq}
			l = append(l[:min(place, 2)], append([]merge.Seq{x.bad}, l[min(place, 2):]...)...)
			for i, act := range []func(){
				func() {
					for key := range merge.Union(l) {
						if string(key) == "b" && x.what == "left badly" {
							break
						}
					}
				},
				func() { merge.Same(x.bad, merge.Of(entries("b=1 d=2"))) },
				func() { merge.Same(merge.Of(entries("b=1 d=2")), x.bad) },
			} {
				func() {
					defer func() {
						if got := recover(); got != x.what {
							t.Errorf("%s, %d: %v", x.what, i, got)
						}
					}()
					act()
				}()
			}
			if good[0].running+good[1].running != 0 {
				t.Errorf("%s: others run", x.what)
			}
		}
	}
}

// When a telling panics, nothing is told any more: the panic comes where its next entry was asked for.
func TestNothingBehindAPanic(t *testing.T) {
	for _, l := range [][]merge.Seq{
		{failing(entries("a=1 b=2"), false), merge.Of(entries("a=0 c=3 d=4"))},
		{merge.Of(entries("a=1 b=2 c=3")), failing(entries("b=9"), false)},
	} {
		got := ""
		func() {
			defer func() { recover() }()
			for key := range merge.Union(l) {
				got += string(key)
			}
			t.Error("no panic")
		}()
		if got != "ab" {
			t.Errorf("told: %s", got)
		}
	}
}

// P4: goroutines that a call started have ended when it answers; ahead of the loop there are none.
func TestGoroutinesEnd(t *testing.T) {
	before := runtime.NumGoroutine()
	list := makings()
	if now := runtime.NumGoroutine(); now > before {
		t.Errorf("%d goroutines ahead of the loops", now-before)
	}
	for range 50 {
		for i, x := range list {
			n := 0
			for range x.s {
				n++
				if n > i {
					break
				}
			}
			merge.Same(x.s, list[0].s)
		}
	}
	// One that has ended may be counted for a moment.
	for range 1000 {
		if runtime.NumGoroutine() <= before {
			return
		}
		time.Sleep(time.Millisecond)
	}
	t.Errorf("%d goroutines are left", runtime.NumGoroutine()-before)
}
