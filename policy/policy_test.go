package policy_test

import (
	"math"
	"slices"
	"testing"

	"banyan/api"
	"banyan/policy"
)

// The chapter's examples, in their order.
func TestExamples(t *testing.T) {
	c := fresh(t, greedy)
	chooses(t, c, 1, 3, 5, 5)
	none(t, c, 0, -1)
	chooses(t, c, 2, 0, 0, 9)
	c = fresh(t, round)
	chooses(t, c, 0, 1, 0, 4)
	chooses(t, c, 2, 1, 0, 4)
	chooses(t, c, 0, 1, 0, 4)
	chooses(t, c, 1, 0, 7, 0)
	c = fresh(t, script(4, -1))
	chooses(t, c, 0, 1, 0, 4)
	chooses(t, c, 0, 5, 5, 5)
	chooses(t, c, 0, 1, 0, 4)
	c = fresh(t, compact)
	chooses(t, c, 0, 2, 2)
	if !c.Settles() {
		t.Error("Compact does not settle")
	}
	refused(t, api.Policy{})
	refused(t, api.Policy{Kind: api.Greedy, Picks: []int{1}})
}

// refused holds that a policy may not be.
func refused(t *testing.T, p api.Policy) {
	t.Helper()
	if err := policy.Check(p); err != api.ErrPolicyKind {
		t.Errorf("Check, kind %d, %d picks: %v, want ErrPolicyKind", p.Kind, len(p.Picks), err)
	}
	if c, err := policy.New(p); c != nil || err != api.ErrPolicyKind {
		t.Errorf("New, kind %d, %d picks: %v %v, want nil and ErrPolicyKind", p.Kind, len(p.Picks), c, err)
	}
}

// Check and New: the four kinds, and no others; picks in a Script alone, and no more than the chapter's limit.
func TestCheck(t *testing.T) {
	var picks [][]int
	for _, n := range []int{0, 1, 2, 65535, 65536, 65537, 100000} {
		picks = append(picks, make([]int, n))
	}
	for _, list := range append(picks, nil) {
		for _, k := range allKinds {
			p := api.Policy{Kind: k, Picks: list}
			if len(list) == 0 || k == api.Script && len(list) <= 65536 {
				if c := fresh(t, p); c.Settles() != (k == api.Compact) {
					t.Errorf("kind %d: Settles: %t", k, c.Settles())
				}
			} else {
				refused(t, p)
			}
		}
		for _, k := range []int{0, -1, -2, -3, -4, 5, 6, 7, 255, 256, 257, 1<<32 + 1, math.MaxInt, math.MinInt, math.MinInt + 1} {
			refused(t, api.Policy{Kind: api.PolicyKind(k), Picks: list})
		}
	}
	// Spare room has no picks.
	fresh(t, api.Policy{Kind: api.Round, Picks: make([]int, 0, 9)})
}

// ErrPolicyNone: where no weight is above 0; and nothing is remembered then, wherever it stands between choices.
func TestNone(t *testing.T) {
	nothing := [][]int{nil, {}, {0}, {-1}, {0, 0, 0, 0, 0}, {0, -1, -7}, {math.MinInt, 0}, make([]int, 1000)}
	for _, p := range somePolicies() {
		for _, empty := range nothing {
			for at := range 8 {
				c, m := made(t, p)
				for step := range 8 {
					if step == at {
						none(t, c, empty...)
						none(t, c, empty...)
					}
					does(t, c, m, 1, 0, 4, 4, -2, 9)
				}
			}
		}
		c := fresh(t, p)
		for _, empty := range nothing {
			none(t, c, empty...)
		}
		if c.Count() != 0 {
			t.Errorf("Count: %d", c.Count())
		}
	}
}

// P16.1, and the words of Choose: three choices one behind the other, of all short lists of weights.
func TestAllShort(t *testing.T) {
	lists := allLists(3, 0, 1, 2)
	for _, p := range somePolicies() {
		for _, a := range lists {
			for _, b := range lists {
				for _, d := range lists {
					c, m := made(t, p)
					does(t, c, m, a...)
					does(t, c, m, b...)
					does(t, c, m, d...)
				}
			}
		}
	}
}

// Greedy, Compact and Script without picks: the greatest weight, of several the least number, whatever was chosen ahead.
func TestGreatest(t *testing.T) {
	for _, p := range []api.Policy{greedy, compact, script(), {Kind: api.Script, Picks: []int{}}} {
		c, m := made(t, p)
		for _, weights := range allLists(4, 0, 1, 2, math.MaxInt, math.MinInt) {
			does(t, c, m, weights...)
		}
		chooses(t, c, 0, 1)
		chooses(t, c, 3, math.MinInt, -1, 0, 1)
		chooses(t, c, 1, math.MaxInt-1, math.MaxInt, math.MaxInt)
		chooses(t, c, 2, 1, 2, 3)
		chooses(t, c, 0, 3, 2, 1)
		for range 5 {
			chooses(t, c, 1, 3, 5, 5)
		}
		for n := range 40 {
			list := slices.Repeat([]int{7}, 40)
			list[n] = 8
			chooses(t, c, n, list...)
			list[39] = 8
			chooses(t, c, n, list...)
		}
	}
}

// P16.2: wherever a Round stands, of as many choices as there are such children each is chosen once, by whatever weights.
func TestRoundEach(t *testing.T) {
	const children = 7
	r := dice(3)
	for set := 1; set < 1<<children; set++ {
		for last := -1; last < children+2; last++ {
			c := fresh(t, round)
			if last >= 0 {
				ahead := make([]int, last+1)
				ahead[last] = 1
				chooses(t, c, last, ahead...)
			}
			for range 3 {
				once(t, c, &r, set, children)
			}
		}
	}
}

// once lets a Round choose as often as a set has children, and holds that each was chosen once.
func once(t *testing.T, c *policy.Chooser, r *dice, set int, children int) {
	t.Helper()
	var chosen, all []int
	for i := range children {
		if set>>i&1 == 1 {
			all = append(all, i)
		}
	}
	for range all {
		weights := make([]int, children)
		for i := range weights {
			weights[i] = -r.to(9)
			if set>>i&1 == 1 {
				weights[i] = 1 + r.to(99)
			}
		}
		i, err := c.Choose(weights)
		if err != api.OK {
			t.Fatalf("Choose(%v): %v", weights, err)
		}
		chosen = append(chosen, i)
	}
	slices.Sort(chosen)
	if !slices.Equal(chosen, all) {
		t.Fatalf("chosen were %v, want %v", chosen, all)
	}
}

// Round: the next one above the last one, whether that may still be chosen, or is there, or not.
func TestRoundWords(t *testing.T) {
	c := fresh(t, round)
	chooses(t, c, 1, 0, 1, 9) // the first choice: the least of all
	chooses(t, c, 2, 9, 0, 1)
	chooses(t, c, 0, 1, 1)       // the last one is gone
	chooses(t, c, 3, 9, 0, 0, 1) // those between may not be
	chooses(t, c, 3, 0, 0, 0, 1) // itself, where it is the only one
	chooses(t, c, 4, 9, 9, 9, 9, 1)
	none(t, c)
	none(t, c, 0, 0, 0, 0, 0, 0)
	chooses(t, c, 5, 9, 9, 9, 9, 9, 1, 1)
	chooses(t, c, 0, 1)
	chooses(t, c, 0, 1)
	chooses(t, c, 1, 1, 1)
	c = fresh(t, round)
	chooses(t, c, 0, 1, 1) // not 1: nothing was chosen ahead
	chooses(t, c, 1, 1, 1)
}

// Script: every pick, of every number of children that may be chosen, with others between them.
func TestScriptPicks(t *testing.T) {
	picks := slices.Clone(anyInts)
	for n := -70; n <= 70; n++ {
		picks = append(picks, n, n*n*n, math.MaxInt-n*n, math.MinInt+n*n)
	}
	for _, p := range picks {
		for many := 1; many <= 20; many++ {
			weights := make([]int, 3*many)
			for i := range many {
				weights[3*i+i%3] = 1 + i
			}
			c, m := made(t, script(p))
			does(t, c, m, weights...)
			does(t, c, m, weights...)
		}
	}
	for n, want := range map[int]int{0: 0, 1: 1, 2: 2, 3: 0, -1: 0, -2: 1, -3: 2, -4: 0, math.MaxInt: 1, math.MinInt: 1, math.MinInt + 1: 0} {
		chooses(t, fresh(t, script(n)), want, 5, 5, 5) // 2^63 - 1 is 1 modulo 3
	}
}

// Script: each pick is of one choice, and behind the last one the first one comes again, however many there are.
func TestScriptOrder(t *testing.T) {
	r := dice(21)
	for _, many := range []int{1, 2, 3, 7, 100, 65535, 65536} {
		picks := make([]int, many)
		for i := range picks {
			picks[i] = r.to(1000) - 500
		}
		c, m := made(t, script(picks...))
		for step := range 2*many + 5 {
			if step%11 == 0 {
				none(t, c, 0, -1)
			}
			does(t, c, m, 3, 1, 0, 9, 4, -1, 5)
		}
	}
}

// P16.3: for every child that may be chosen there is a pick, and one below 0, by which Script chooses it.
func TestScriptChoosesAll(t *testing.T) {
	for _, weights := range allLists(6, 0, 1, 5) {
		may := mayBe(weights)
		for place, want := range may {
			chooses(t, fresh(t, script(place)), want, weights...)
			chooses(t, fresh(t, script(-place-1)), want, weights...)
			chooses(t, fresh(t, script(place+len(may))), want, weights...)
		}
	}
}

// P16.4: two choosers by one policy choose alike; one that is asked otherwise between them changes nothing.
func TestAlike(t *testing.T) {
	r := dice(8)
	for _, p := range somePolicies() {
		a, b, other := fresh(t, p), fresh(t, p), fresh(t, p)
		for range 500 {
			weights := r.weights(9, 2, 4)
			i, err := a.Choose(weights)
			other.Choose(r.weights(9, 2, 4))
			k, e := b.Choose(slices.Clone(weights))
			if i != k || err != e || a.Count() != b.Count() {
				t.Fatalf("Choose(%v): %d %v and %d %v, by %v", weights, i, err, k, e, p)
			}
		}
	}
}

// Long runs of lists that are thrown, by several weights, held against the chapter's words behind every call.
func TestLongRuns(t *testing.T) {
	r := dice(5)
	for _, p := range somePolicies() {
		for _, most := range []int{1, 2, 5, 30, 300} {
			for _, oneIn := range []int{1, 2, 6} {
				for _, heavy := range []int{1, 3, 1 << 30} {
					c, m := made(t, p)
					for range 300 {
						does(t, c, m, r.weights(most, oneIn, heavy)...)
					}
				}
			}
		}
	}
}

// A great number of children, of which all, one or none may be chosen.
func TestManyChildren(t *testing.T) {
	const many = 1 << 20
	for _, p := range somePolicies() {
		c, m := made(t, p)
		weights := make([]int, many)
		does(t, c, m, weights...)
		for _, at := range []int{many - 1, many / 2, 0} {
			weights[at] = at + 1
			does(t, c, m, weights...)
		}
		for i := range weights {
			weights[i] = 1 + i%1000
		}
		does(t, c, m, weights...)
		does(t, c, m, weights...)
	}
}
