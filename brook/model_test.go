package brook_test

import (
	"math"
	"math/rand/v2"
	"slices"
	"sync"
	"testing"

	"brook/api"
	"brook/brook"
)

// known is a node as the model has it; number is p / q, written out.
type known struct {
	op, a, b int
	number   string
}

// model says what a graph must answer, from the words of P3, P4 and P8 alone.
type model struct {
	nodes  []known
	closed bool
}

func (m *model) handle(h int) bool { return h >= 1 && h <= len(m.nodes) }

func (m *model) add(k known) answer {
	if i := slices.Index(m.nodes, k); i >= 0 {
		return answer{i + 1, api.OK}
	}
	if len(m.nodes) == api.MaxNodes {
		return answer{0, api.ErrFull}
	}
	m.nodes = append(m.nodes, k)
	return answer{len(m.nodes), api.OK}
}

// call is one call on a graph: 'l' Leaf, 'n' Node, 's' Scale, 'c' Close.
type call struct {
	kind     byte
	op, a, b int
	p, q     int64
}

func (m *model) do(c call) answer {
	if c.kind == 'c' {
		m.closed = true
		return answer{}
	}
	two := slices.Contains(twoParts, c.op)
	one := slices.Contains(onePart, c.op)
	r := quotient(c.p, c.q)
	switch {
	case m.closed:
		return answer{0, api.ErrClosed}
	case c.kind != 'l' && !m.handle(c.a), c.kind == 'n' && two && !m.handle(c.b):
		return answer{0, api.ErrHandle}
	case c.kind == 'n' && !one && !two, c.kind != 'n' && r == nil:
		return answer{0, api.ErrRange}
	case c.kind == 'l':
		return m.add(known{op: api.Leaf, number: r.String()})
	case c.kind == 's':
		return m.add(known{op: api.Scale, a: c.a, number: r.String()})
	case one:
		return m.add(known{op: c.op, a: c.a})
	}
	return m.add(known{op: c.op, a: c.a, b: c.b})
}

func do(g *brook.Graph, c call) answer {
	switch c.kind {
	case 'l':
		return got(g.Leaf(c.p, c.q))
	case 'n':
		return got(g.Node(c.op, c.a, c.b))
	case 's':
		return got(g.Scale(c.a, c.p, c.q))
	}
	g.Close()
	return answer{}
}

// script is n calls, the same ones for the same seed; right and wrong ones mixed.
func script(seed uint64, n int) []call {
	r := rand.New(rand.NewPCG(seed, 1))
	small := func() int { return r.IntN(api.MaxNodes+4) - 2 }
	part := func() int {
		if r.IntN(20) == 0 {
			return int(edges[r.IntN(len(edges))])
		}
		return 1 + min(r.IntN(6), small()+2)
	}
	number := func() int64 {
		if r.IntN(3) == 0 {
			return edges[r.IntN(len(edges))]
		}
		return int64(r.IntN(9)) - 4
	}
	out := make([]call, n)
	for i := range out {
		out[i] = call{"llnnns"[r.IntN(6)], r.IntN(11) - 1, part(), part(), number(), number()}
		if r.IntN(100) == 0 {
			out[i].op = math.MinInt + r.IntN(9)
		}
	}
	if seed%4 == 0 {
		out[n*3/4].kind = 'c'
	}
	return out
}

// P1, P3, P4, P8: long runs of calls, right and wrong, against the model; an error changes nothing.
func TestAgainstModel(t *testing.T) {
	seen := map[api.Errno]int{}
	for seed := range uint64(400) {
		g, m := brook.New(), &model{}
		for i, c := range script(seed, 120) {
			want, have := m.do(c), do(g, c)
			seen[have.e]++
			if have != want || g.Len() != len(m.nodes) {
				t.Fatalf("seed %d, call %d, %+v = %v, want %v; Len() = %d, want %d", seed, i, c, have, want, g.Len(), len(m.nodes))
			}
		}
	}
	for _, e := range []api.Errno{api.OK, api.ErrClosed, api.ErrHandle, api.ErrRange, api.ErrFull} {
		if seen[e] < 100 {
			t.Errorf("the runs met the answer %d only %d times", e, seen[e])
		}
	}
}

// P1: at every choice of the edges as op, a, b, p and q a call ends, with the answer that the model has.
func TestAllNumbers(t *testing.T) {
	for _, nodes := range []int{0, 3, api.MaxNodes} {
		for _, x := range edges {
			for _, y := range edges {
				for _, z := range edges {
					for _, c := range []call{{kind: 'n', op: int(x), a: int(y), b: int(z)}, {kind: 's', a: int(x), p: y, q: z}} {
						g, m := brook.New(), &model{}
						for i := range nodes {
							leaf := call{kind: 'l', p: 1, q: int64(i + 2)}
							do(g, leaf)
							m.do(leaf)
						}
						if have, want := do(g, c), m.do(c); have != want {
							t.Fatalf("P1, P3: %+v at %d nodes = %v, want %v", c, nodes, have, want)
						}
					}
				}
			}
		}
	}
}

// P2: the same calls have the same answers, also where other graphs are at work between them or beside them.
func TestGraphsAlone(t *testing.T) {
	const graphs = 8
	var alone [graphs][]answer
	for i := range alone {
		g := brook.New()
		for _, c := range script(uint64(i), 100) {
			alone[i] = append(alone[i], do(g, c))
		}
	}
	var mixed, beside [graphs][]answer
	var gs [graphs]*brook.Graph
	for i := range gs {
		gs[i] = brook.New()
	}
	for k := range 100 {
		for i := range gs {
			mixed[i] = append(mixed[i], do(gs[i], script(uint64(i), 100)[k]))
		}
	}
	var wg sync.WaitGroup
	for i := range beside {
		wg.Go(func() {
			g := brook.New()
			for _, c := range script(uint64(i), 100) {
				beside[i] = append(beside[i], do(g, c))
			}
		})
	}
	wg.Wait()
	for i := range alone {
		if !slices.Equal(alone[i], mixed[i]) || !slices.Equal(alone[i], beside[i]) {
			t.Errorf("P2: graph %d answers otherwise where others are at work", i)
		}
	}
}
