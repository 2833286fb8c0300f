package brook_test

import (
	"math/big"
	"slices"
	"testing"

	"brook/api"
	"brook/brook"
)

// reckoner is the model with digits: made by fractions, word by word as the
// document has it, in one thread.
type reckoner struct {
	model
	flows []*flow // one a node
}

// flow is the digits that a node has made, and those that it has taken.
type flow struct {
	made, ofA, ofB []int
}

func (r *reckoner) flow(h int) *flow {
	for len(r.flows) < len(r.nodes) {
		r.flows = append(r.flows, &flow{})
	}
	return r.flows[h-1]
}

// sum is the sum of the digits, and unit 2^-n.
func sum(digits []int) (total, unit *big.Rat) {
	whole, under := new(big.Int), big.NewInt(1)
	for _, d := range digits {
		whole.Add(whole.Lsh(whole, 1), big.NewInt(int64(d)))
		under.Lsh(under, 1)
	}
	return new(big.Rat).SetFrac(whole, under), new(big.Rat).SetFrac(big.NewInt(1), under)
}

// corners are the bounds of the interval that the digits stand for.
func corners(digits []int) []*big.Rat {
	total, unit := sum(digits)
	return []*big.Rat{new(big.Rat).Sub(total, unit), new(big.Rat).Add(total, unit)}
}

// reckon is the number that the op makes of the numbers x and y and of its own p / q.
func reckon(k known, x, y *big.Rat) *big.Rat {
	number, _ := new(big.Rat).SetString(k.number)
	switch k.op {
	case api.Leaf:
		return number
	case api.Neg:
		return new(big.Rat).Neg(x)
	case api.Avg:
		s := new(big.Rat).Add(x, y)
		return s.Mul(s, big.NewRat(1, 2))
	case api.Mul:
		return new(big.Rat).Mul(x, y)
	case api.Scale:
		return new(big.Rat).Mul(x, number)
	case api.Min:
		return slices.MinFunc([]*big.Rat{x, y}, (*big.Rat).Cmp)
	case api.Max:
		return slices.MaxFunc([]*big.Rat{x, y}, (*big.Rat).Cmp)
	}
	return new(big.Rat).Abs(x)
}

// knows is the least and the greatest that a node can be. Every op has them
// where its parts are at their bounds; ABS has its least at 0 too, if that is
// between them.
func (r *reckoner) knows(h int) (lo, hi *big.Rat) {
	k, f := r.nodes[h-1], r.flow(h)
	var all []*big.Rat
	for _, x := range corners(f.ofA) {
		for _, y := range corners(f.ofB) {
			all = append(all, reckon(k, x, y))
		}
	}
	if c := corners(f.ofA); k.op == api.Abs && c[0].Sign() <= 0 && c[1].Sign() >= 0 {
		all = append(all, new(big.Rat))
	}
	return slices.MinFunc(all, (*big.Rat).Cmp), slices.MaxFunc(all, (*big.Rat).Cmp)
}

// left is x less the sum, times 2^n.
func left(x *big.Rat, made []int) *big.Rat {
	total, unit := sum(made)
	x = new(big.Rat).Sub(x, total)
	return x.Quo(x, unit)
}

func (r *reckoner) makeNext(h int) {
	half := big.NewRat(1, 2)
	k, f := r.nodes[h-1], r.flow(h)
	for {
		lo, hi := r.knows(h)
		lo, hi = left(lo, f.made), left(hi, f.made)
		switch {
		case lo.Cmp(new(big.Rat).Neg(half)) >= 0 && hi.Cmp(half) <= 0:
			f.made = append(f.made, 0)
			return
		case lo.Sign() >= 0:
			f.made = append(f.made, 1)
			return
		case hi.Sign() <= 0:
			f.made = append(f.made, -1)
			return
		}
		f.ofA = append(f.ofA, r.digit(k.a, len(f.ofA)))
		if k.b != 0 {
			f.ofB = append(f.ofB, r.digit(k.b, len(f.ofB)))
		}
	}
}

func (r *reckoner) digit(h, i int) int {
	for len(r.flow(h).made) <= i {
		r.makeNext(h)
	}
	return r.flow(h).made[i]
}

func (r *reckoner) ask(h, n int) ([]int, api.Errno) {
	switch {
	case r.closed:
		return nil, api.ErrClosed
	case !r.handle(h):
		return nil, api.ErrHandle
	case n < 0 || n > api.MaxDigits:
		return nil, api.ErrMany
	}
	if n > 0 {
		r.digit(h, n-1)
	}
	return r.flow(h).made[:n], api.OK
}

// turn is the digit at place i of a going through the node, and whether it has one.
func (r *reckoner) turn(h, i int) (int, bool) {
	if r.closed || !r.handle(h) || i >= api.MaxDigits {
		return 0, false
	}
	return r.digit(h, i), true
}

func (r *reckoner) made(h int) answer {
	switch {
	case r.closed:
		return answer{0, api.ErrClosed}
	case !r.handle(h):
		return answer{0, api.ErrHandle}
	}
	return answer{len(r.flow(h).made), api.OK}
}

// numbers are the nodes' numbers themselves.
func (m *model) numbers() []*big.Rat {
	var out []*big.Rat
	for _, k := range m.nodes {
		var x, y *big.Rat
		if k.a != 0 {
			x = out[k.a-1]
		}
		if k.b != 0 {
			y = out[k.b-1]
		}
		out = append(out, reckon(k, x, y))
	}
	return out
}

// checkAsk holds an Ask against digits that are given.
func checkAsk(t *testing.T, g *brook.Graph, h int, want ...int) {
	t.Helper()
	if l, e := g.Ask(h, len(want)); e != api.OK || !slices.Equal(l, want) {
		t.Errorf("P5: Ask(%d, %d) = %v, %d, want %v", h, len(want), l, e, want)
	}
}

// checkRefused holds an Ask against an error: no list is beside it.
func checkRefused(t *testing.T, g *brook.Graph, h, n int, want api.Errno) {
	t.Helper()
	if l, e := g.Ask(h, n); e != want || l != nil {
		t.Errorf("P1, P5: Ask(%d, %d) = %v, %d, want nil, %d", h, n, l, e, want)
	}
}

// checkMade holds what the nodes from 1 on have made against numbers that are given.
func checkMade(t *testing.T, g *brook.Graph, want ...int) {
	t.Helper()
	for i, n := range want {
		check(t, "P6: Made", got(g.Made(i+1)), n, api.OK)
	}
}

// agree holds an Ask, and what all nodes have made behind it, against the reckoner.
func agree(t *testing.T, g *brook.Graph, r *reckoner, h, n int) {
	t.Helper()
	want, we := r.ask(h, n)
	if l, e := g.Ask(h, n); e != we || !slices.Equal(l, want) || (e != api.OK && l != nil) {
		t.Fatalf("P5: Ask(%d, %d) = %v, %d, want %v, %d; nodes %v", h, n, l, e, want, we, r.nodes)
	}
	agreeMade(t, g, r, "Ask", h, n)
}

// agreeMade holds what all nodes have made, behind n digits of the node h, against the reckoner.
func agreeMade(t *testing.T, g *brook.Graph, r *reckoner, behind string, h, n int) {
	t.Helper()
	for k := range len(r.nodes) + 2 {
		if m, w := got(g.Made(k)), r.made(k); m != w {
			t.Fatalf("P6: behind %s of node %d, %d digits, Made(%d) = %v, want %v; nodes %v", behind, h, n, k, m, w, r.nodes)
		}
	}
}

// both makes the call on the graph and on the reckoner.
func both(t *testing.T, g *brook.Graph, r *reckoner, c call) int {
	t.Helper()
	have, want := do(g, c), r.do(c)
	if have != want {
		t.Fatalf("P3: %+v = %v, want %v", c, have, want)
	}
	return have.h
}
