package brook_test

import (
	"math/big"
	"math/rand/v2"
	"runtime"
	"slices"
	"sync"
	"testing"

	"brook/api"
	"brook/brook"
)

// sprout is a call that makes some node of those that are there; the same ones for the same source.
func sprout(r *rand.Rand, there int) call {
	c := call{kind: "lnnnns"[r.IntN(6)], q: 1 + r.Int64N(12)}
	if r.IntN(8) == 0 {
		c.q = least + r.Int64N(3)
	}
	c.p = r.Int64N(12) - 5
	for quotient(c.p, c.q) == nil {
		c.p /= 2
	}
	if there < 2 || c.kind == 'l' {
		c.kind = 'l'
		return c
	}
	ops := append(onePart, twoParts...)
	c.op, c.a, c.b = ops[r.IntN(len(ops))], 1+r.IntN(there), 1+r.IntN(there)
	return c
}

// sprouts is the calls that make a graph of so many nodes.
func sprouts(seed uint64, nodes int) []call {
	r, m := rand.New(rand.NewPCG(seed, 2)), &model{}
	var out []call
	for len(m.nodes) < nodes {
		c := sprout(r, len(m.nodes))
		m.do(c)
		out = append(out, c)
	}
	return out
}

func grown(calls []call) *brook.Graph {
	g := brook.New()
	for _, c := range calls {
		do(g, c)
	}
	return g
}

// P1, P5, P6: Asks, right and wrong ones, while the graph grows: the digits, and what every node has made, against the reckoner.
func TestRuns(t *testing.T) {
	for seed := range uint64(120) {
		nodes := 2 + int(seed%9)
		if seed%40 == 0 {
			nodes = api.MaxNodes
		}
		rnd := rand.New(rand.NewPCG(seed, 3))
		g, r := brook.New(), &reckoner{}
		for _, c := range sprouts(seed, nodes) {
			both(t, g, r, c)
			agree(t, g, r, 1+rnd.IntN(len(r.nodes)), rnd.IntN(12))
			agree(t, g, r, rnd.IntN(len(r.nodes)+3)-1, rnd.IntN(20)-3)
			agree(t, g, r, 1+rnd.IntN(len(r.nodes)), api.MaxDigits+1)
		}
		agree(t, g, r, len(r.nodes), 40)
		g.Close()
		r.do(call{kind: 'c'})
		agree(t, g, r, 1, 1)
	}
}

// P1, P5: a full graph, one node upon the other, of every op.
func TestDeepest(t *testing.T) {
	for _, leaf := range []call{{kind: 'l', p: -1, q: 1}, {kind: 'l', p: 97, q: 99}, {kind: 'l', p: -1, q: 2}, {kind: 'l', p: most, q: least}} {
		for _, op := range append(onePart, append(twoParts, api.Scale)...) {
			g, r := brook.New(), &reckoner{}
			h := both(t, g, r, leaf)
			for range api.MaxNodes - 1 {
				c := call{kind: 'n', op: op, a: h, b: h}
				if op == api.Scale {
					c = call{kind: 's', a: h, p: least + 1, q: least}
				}
				h = both(t, g, r, c)
			}
			checkLen(t, g, api.MaxNodes)
			agree(t, g, r, h, 10)
			agree(t, g, r, h+1, 10)
			agree(t, g, r, h, api.MaxDigits)
		}
	}
}

// tale is all that a graph tells in the end: every node's digits, and how many each has made.
func tale(t *testing.T, g *brook.Graph) [][]int {
	t.Helper()
	var out [][]int
	for h := 1; h <= g.Len(); h++ {
		l, e := g.Ask(h, api.MaxDigits)
		if e != api.OK || len(l) != api.MaxDigits {
			t.Errorf("P5: Ask(%d, %d) = %v, %d", h, api.MaxDigits, l, e)
		}
		out = append(out, l)
	}
	for h := 1; h <= g.Len(); h++ {
		m, _ := g.Made(h)
		out = append(out, []int{m})
	}
	return out
}

func sameTale(x, y [][]int) bool { return slices.EqualFunc(x, y, slices.Equal) }

// P9, P2: in another order, in parts, or while nodes are still to come: the same digits are told and made.
func TestOrder(t *testing.T) {
	for seed := range uint64(60) {
		calls := sprouts(seed, 3+int(seed%10))
		want := tale(t, grown(calls))
		back := grown(calls)
		for h := back.Len(); h >= 1; h-- {
			back.Ask(h, api.MaxDigits)
		}
		parts := grown(calls)
		for n := range api.MaxDigits + 1 {
			for h := parts.Len(); h >= 1; h-- {
				if l, e := parts.Ask(h, n); e != api.OK || !slices.Equal(l, want[h-1][:n]) {
					t.Fatalf("P9: seed %d: Ask(%d, %d) = %v, %d, want the beginning of %v", seed, h, n, l, e, want[h-1])
				}
			}
		}
		rnd := rand.New(rand.NewPCG(seed, 4))
		early := brook.New()
		for _, c := range calls {
			do(early, c)
			early.Ask(1+rnd.IntN(early.Len()), rnd.IntN(api.MaxDigits+1))
		}
		for i, g := range []*brook.Graph{back, parts, early} {
			if have := tale(t, g); !sameTale(have, want) {
				t.Fatalf("P9: seed %d, order %d: %v, want %v", seed, i, have, want)
			}
		}
	}
}

// P9, P6: fewer digits are the beginning of the more, and make nothing new.
func TestFewerBehindMore(t *testing.T) {
	for seed := range uint64(20) {
		g := grown(sprouts(seed, 8))
		want := tale(t, g)
		for h := 1; h <= 8; h++ {
			for _, n := range []int{63, 0, 17, 1, 64} {
				if l, e := g.Ask(h, n); e != api.OK || !slices.Equal(l, want[h-1][:n]) {
					t.Fatalf("P9: seed %d: Ask(%d, %d) = %v, %d, want the beginning of %v", seed, h, n, l, e, want[h-1])
				}
			}
		}
		for h := 1; h <= 8; h++ {
			check(t, "P6: Made", got(g.Made(h)), want[8+h-1][0], api.OK)
		}
	}
}

// P9: a number is no further than 2^-n from the sum of its first n digits, whatever n is.
func TestNearEnough(t *testing.T) {
	for seed := range uint64(80) {
		calls := sprouts(seed, 3+int(seed%8))
		g, m := grown(calls), &model{}
		for _, c := range calls {
			m.do(c)
		}
		for i, x := range m.numbers() {
			l, _ := g.Ask(i+1, api.MaxDigits)
			if len(l) != api.MaxDigits {
				t.Fatalf("P5: %d digits", len(l))
			}
			for n := range len(l) + 1 {
				total, unit := sum(l[:n])
				if off := new(big.Rat).Sub(x, total); off.Abs(off).Cmp(unit) > 0 {
					t.Fatalf("P9: seed %d: the first %d digits of %v, %v, are %v off", seed, n, x, l[:n], off)
				}
			}
		}
	}
}

// P9, P6: NEG has the other signs, and takes just as many digits as it makes.
func TestNegIsTheMirror(t *testing.T) {
	for seed := range uint64(60) {
		calls := sprouts(seed, 9)
		for h := 1; h <= 9; h++ {
			g := grown(calls)
			neg, _ := g.Node(api.Neg, h, 0)
			again, _ := g.Node(api.Neg, neg, 0)
			n := int(seed) + 5
			if before, _ := g.Made(h); before != 0 {
				t.Fatalf("P6: Made(%d) = %d ahead of any Ask", h, before)
			}
			same, _ := g.Ask(again, n)
			check(t, "P6: Made of the node", got(g.Made(h)), n, api.OK)
			check(t, "P6: Made of its NEG", got(g.Made(neg)), n, api.OK)
			mirror, _ := g.Ask(neg, n)
			l, _ := g.Ask(h, n)
			for i := range l {
				mirror[i] = -mirror[i]
			}
			if len(l) != n || !slices.Equal(l, mirror) || !slices.Equal(l, same) {
				t.Fatalf("P9: seed %d: node %d has %v, its NEG turned %v, the NEG of that %v", seed, h, l, mirror, same)
			}
		}
	}
}

// P2: however goroutines run, and whatever other graphs are at work, the answers are the same.
func TestAskBesideOthers(t *testing.T) {
	const graphs = 12
	var want [graphs][][]int
	for i := range want {
		want[i] = tale(t, grown(sprouts(uint64(i), 10)))
	}
	for _, threads := range []int{1, 2, 8} {
		old := runtime.GOMAXPROCS(threads)
		var have [graphs][][]int
		var wg sync.WaitGroup
		for i := range have {
			wg.Go(func() { have[i] = tale(t, grown(sprouts(uint64(i), 10))) })
		}
		wg.Wait()
		runtime.GOMAXPROCS(old)
		for i := range have {
			if !sameTale(have[i], want[i]) {
				t.Errorf("P2: graph %d tells %v beside others, %v alone", i, have[i], want[i])
			}
		}
	}
}

// P8: the goroutines have ended when Ask answers, not only some time behind it.
func TestEndedWhenAskAnswers(t *testing.T) {
	// With one thread a goroutine that Ask does not wait for can't have ended
	// yet when Ask answers; one that it has waited for is gone but for rare
	// moments of the runtime, which is why a few are let pass.
	defer runtime.GOMAXPROCS(runtime.GOMAXPROCS(1))
	for range 20 {
		runtime.Gosched() // those of the tests ahead of this one end here
	}
	before, left := runtime.NumGoroutine(), 0
	const rounds = 200
	for i := range rounds {
		g := grown(sprouts(uint64(i), 6))
		for _, n := range []int{0, 1, 9, 9, 20, -1} {
			g.Ask(6, n)
			g.Ask(7, n)
			g.Made(6)
			if runtime.NumGoroutine() > before {
				left++
			}
		}
		g.Close()
		g.Ask(6, 9)
	}
	if left > rounds/10 {
		t.Errorf("P8: goroutines were left behind %d of %d rounds of Asks", left, rounds*6)
	}
}
