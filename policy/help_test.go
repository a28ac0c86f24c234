package policy_test

import (
	"math"
	"math/big"
	"slices"
	"testing"

	"banyan/api"
	"banyan/policy"
)

// anyInts are numbers that weights and picks may be: any.
var anyInts = []int{0, 1, -1, 2, -2, 3, 65535, 65536, -65536, 1 << 31, -1 << 31, 1 << 32, math.MaxInt - 1, math.MaxInt, math.MinInt + 1, math.MinInt}

// allKinds are the kinds that there are.
var allKinds = []api.PolicyKind{api.Greedy, api.Round, api.Compact, api.Script}

// greedy, round, compact and script are policies, told short.
var (
	greedy  = api.Policy{Kind: api.Greedy}
	round   = api.Policy{Kind: api.Round}
	compact = api.Policy{Kind: api.Compact}
)

func script(picks ...int) api.Policy { return api.Policy{Kind: api.Script, Picks: picks} }

// somePolicies are policies of every kind, with no, one and several picks.
func somePolicies() []api.Policy {
	return []api.Policy{greedy, round, compact, script(), script(0), script(1), script(-1), script(0, 1, 2),
		script(4, -1), script(-3, 5, 5, -2, 1), script(math.MinInt, math.MaxInt), script(anyInts...)}
}

// model is a chooser as the chapter's words tell it.
type model struct {
	p       api.Policy
	picks   []int // those that come next; behind the last one the first one again
	last    int
	chosen  bool // last has been
	answers int
}

func (m *model) choose(weights []int) (int, api.Errno) {
	may := mayBe(weights)
	if len(may) == 0 {
		return 0, api.ErrPolicyNone
	}
	switch {
	case m.p.Kind == api.Round:
		m.last = m.behind(may)
	case m.p.Kind == api.Script && len(m.p.Picks) > 0:
		m.last = m.picked(may)
	default:
		m.last = heaviest(weights)
	}
	m.chosen = true
	m.answers++
	return m.last, api.OK
}

// behind is the least one above the last one, or the least of all.
func (m *model) behind(may []int) int {
	if m.chosen {
		for _, i := range may {
			if i > m.last {
				return i
			}
		}
	}
	return may[0]
}

// picked is the one that the next pick says, worked out with numbers that have no end.
func (m *model) picked(may []int) int {
	if len(m.picks) == 0 {
		m.picks = m.p.Picks
	}
	p := big.NewInt(int64(m.picks[0]))
	m.picks = m.picks[1:]
	if p.Sign() < 0 {
		p.Add(p, big.NewInt(1)).Neg(p)
	}
	return may[p.Mod(p, big.NewInt(int64(len(may)))).Int64()]
}

// mayBe tells the children that may be chosen.
func mayBe(weights []int) []int {
	var may []int
	for i := 0; i < len(weights); i++ {
		if weights[i] >= 1 {
			may = append(may, i)
		}
	}
	return may
}

// heaviest is the one to which no one ahead is alike and no one behind above.
func heaviest(weights []int) int {
	best := 0
	for i := 1; i < len(weights); i++ {
		if weights[i] > weights[best] {
			best = i
		}
	}
	return best
}

// fresh is a chooser by a policy that may be.
func fresh(t *testing.T, p api.Policy) *policy.Chooser {
	t.Helper()
	if err := policy.Check(p); err != api.OK {
		t.Fatalf("Check(%.100v): %v", p, err)
	}
	c, err := policy.New(p)
	if c == nil || err != api.OK {
		t.Fatalf("New(%.100v): %v %v", p, c, err)
	}
	if c.Count() != 0 {
		t.Fatalf("Count: %d ahead of the first choice", c.Count())
	}
	return c
}

// made is a chooser and a model of it.
func made(t *testing.T, p api.Policy) (*policy.Chooser, *model) {
	t.Helper()
	return fresh(t, p), &model{p: p}
}

// does lets both choose and holds the answers against each other.
func does(t *testing.T, c *policy.Chooser, m *model, weights ...int) {
	t.Helper()
	was := *m
	i, err := c.Choose(weights)
	asked, e := m.choose(weights)
	if i != asked || err != e {
		t.Fatalf("Choose(%.200v): %d %v, want %d %v; behind %d choices, the last one %d, by %.200v", weights, i, err, asked, e, was.answers, was.last, m.p)
	}
	if c.Count() != m.answers {
		t.Fatalf("Count: %d, want %d, by %.200v", c.Count(), m.answers, m.p)
	}
	if c.Settles() != (m.p.Kind == api.Compact) {
		t.Fatalf("Settles: %t, by %.200v", c.Settles(), m.p)
	}
}

// chooses asks a chooser and says what it must answer.
func chooses(t *testing.T, c *policy.Chooser, want int, weights ...int) {
	t.Helper()
	if i, err := c.Choose(weights); i != want || err != api.OK {
		t.Fatalf("Choose(%.200v): %d %v, want %d", weights, i, err, want)
	}
}

// none asks a chooser that has nothing to choose from.
func none(t *testing.T, c *policy.Chooser, weights ...int) {
	t.Helper()
	count := c.Count()
	if i, err := c.Choose(weights); i != 0 || err != api.ErrPolicyNone {
		t.Fatalf("Choose(%.200v): %d %v, want 0 and ErrPolicyNone", weights, i, err)
	}
	if c.Count() != count {
		t.Fatalf("Count: %d, want %d: nothing was chosen", c.Count(), count)
	}
}

// allLists are all lists of numbers of at most a length.
func allLists(length int, numbers ...int) [][]int {
	lists := [][]int{nil}
	for from := 0; length > 0; length-- {
		end := len(lists)
		for ; from < end; from++ {
			for _, n := range numbers {
				lists = append(lists, append(slices.Clone(lists[from]), n))
			}
		}
	}
	return lists
}

// dice throws numbers that are the same in every run.
type dice uint64

func (r *dice) to(n int) int {
	*r = *r*6364136223846793005 + 1442695040888963407
	return int(uint64(*r) >> 33 % uint64(n))
}

// weights throws some, of which one in so many may be chosen.
func (r *dice) weights(most int, oneIn int, heavy int) []int {
	list := make([]int, r.to(most+1))
	for i := range list {
		list[i] = -r.to(3)
		if r.to(oneIn) == 0 {
			list[i] = 1 + r.to(heavy)
		}
	}
	return list
}
