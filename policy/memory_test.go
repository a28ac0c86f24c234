package policy_test

import (
	"runtime"
	"slices"
	"sync"
	"testing"
	"weak"

	"banyan/api"
	"banyan/policy"
)

// P3: picks are copied: they, and what stands behind them, are not written into, and may be spoilt later.
func TestPicksAreCopied(t *testing.T) {
	for end := range 7 {
		room := []int{4, -1, 7, 2, -9, 1, 3}
		c, m := made(t, script(slices.Clone(room[:end])...))
		given, err := policy.New(script(room[:end]...))
		if err != api.OK {
			t.Fatal(err)
		}
		for step := range 20 {
			want, _ := m.choose([]int{1, 0, 4, 4, 4, 4, 4})
			chooses(t, given, want, 1, 0, 4, 4, 4, 4, 4)
			chooses(t, c, want, 1, 0, 4, 4, 4, 4, 4)
			if step == 3 {
				if !slices.Equal(room, []int{4, -1, 7, 2, -9, 1, 3}) {
					t.Fatalf("picks are written into: %v", room)
				}
				for i := range room {
					room[i] = 6 - i
				}
			}
		}
		if !slices.Equal(room, []int{6, 5, 4, 3, 2, 1, 0}) {
			t.Fatalf("picks are written into: %v", room)
		}
	}
}

// P3: weights, and what stands behind them, are not written into; nor is anything of them asked later.
func TestWeightsAreLeft(t *testing.T) {
	for _, p := range somePolicies() {
		c, m := made(t, p)
		for end := range 7 {
			room := []int{4, -1, 7, 2, 0, 1, 3}
			does(t, c, m, room[:end]...)
			if !slices.Equal(room, []int{4, -1, 7, 2, 0, 1, 3}) {
				t.Fatalf("weights are written into: %v", room)
			}
			for i := range room {
				room[i] = 1000
			}
			does(t, c, m, 1, 2, 0, 2)
		}
	}
}

// Neither the picks nor the weights that were handed in are kept.
func TestNothingIsKept(t *testing.T) {
	var choosers []*policy.Chooser
	var handed []weak.Pointer[[4]int]
	for _, p := range somePolicies() {
		picks, weights := &[4]int{1, 2, 3, 4}, &[4]int{0, 5, 1, 9}
		handed = append(handed, weak.Make(picks), weak.Make(weights))
		if p.Kind == api.Script {
			p.Picks = picks[:]
		}
		c := fresh(t, p)
		c.Choose(weights[:])
		choosers = append(choosers, c)
	}
	runtime.GC()
	runtime.GC()
	for i, p := range handed {
		if p.Value() != nil {
			t.Errorf("the list %d is kept", i)
		}
	}
	runtime.KeepAlive(choosers)
}

// P4: what choosers answer, each of them used by one hand, does not hang on how the hands run, though they have their policy in common.
func TestHands(t *testing.T) {
	for _, p := range somePolicies() {
		var hands sync.WaitGroup
		answers := make([][]int, 8)
		for i := range answers {
			hands.Go(func() {
				c, err := policy.New(p)
				if err != api.OK {
					return
				}
				r := dice(13)
				for range 1000 {
					n, _ := c.Choose(r.weights(12, 2, 5))
					answers[i] = append(answers[i], n, c.Count())
				}
			})
		}
		hands.Wait()
		for _, list := range answers {
			if len(list) == 0 || !slices.Equal(list, answers[0]) {
				t.Fatalf("the answers are not alike, by %v", p)
			}
		}
	}
}
