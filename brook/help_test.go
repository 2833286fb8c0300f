package brook_test

import (
	"math"
	"math/big"
	"testing"

	"brook/api"
	"brook/brook"
)

const (
	least = math.MinInt64
	most  = math.MaxInt64
)

// edges are numbers near which whatever holds p, q, ops or handles might go wrong.
var edges = []int64{least, least + 1, least + 2, least / 2, -1<<32 - 1, -1 << 32, -25, -6, -3, -2, -1, 0, 1, 2, 3, 6, 25, 1 << 32, 1<<32 + 1, most / 2, most - 1, most}

// answer is what one of the calls that make nodes answers.
type answer struct {
	h int
	e api.Errno
}

func got(h int, e api.Errno) answer { return answer{h, e} }

func check(t *testing.T, what string, g answer, h int, e api.Errno) {
	t.Helper()
	if g != (answer{h, e}) {
		t.Errorf("%s = %d, %d, want %d, %d", what, g.h, g.e, h, e)
	}
}

func checkLen(t *testing.T, g *brook.Graph, want int) {
	t.Helper()
	if n := g.Len(); n != want {
		t.Errorf("Len() = %d, want %d", n, want)
	}
}

// quotient is p / q as it is, nil where the calls must refuse it.
func quotient(p, q int64) *big.Rat {
	if q == 0 {
		return nil
	}
	r := new(big.Rat).SetFrac(big.NewInt(p), big.NewInt(q))
	if new(big.Rat).Abs(r).Cmp(big.NewRat(1, 1)) > 0 {
		return nil
	}
	return r
}

// leaves makes a graph of n leaves, 1/2, 1/3 and so on.
func leaves(t *testing.T, n int) *brook.Graph {
	t.Helper()
	g := brook.New()
	for i := range n {
		check(t, "a leaf ahead of the test", got(g.Leaf(1, int64(i+2))), i+1, api.OK)
	}
	return g
}
