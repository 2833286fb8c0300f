package brook_test

import (
	"math"
	"testing"

	"brook/api"
	"brook/brook"
)

var (
	onePart  = []int{api.Neg, api.Abs}
	twoParts = []int{api.Avg, api.Mul, api.Min, api.Max}
	noOps    = []int{api.Leaf, api.Scale, 0, -1, 9, 10, 1<<8 + api.Neg, 1<<32 + api.Neg, math.MinInt, math.MaxInt}
	noNodes  = []int{0, -1, 4, 1<<32 + 1, 1 << 62, math.MinInt, math.MinInt + 1, math.MaxInt}
)

// P3: nodes are numbered from 1 on as they come, whichever call makes them.
func TestNumbers(t *testing.T) {
	g := brook.New()
	checkLen(t, g, 0)
	check(t, "Leaf", got(g.Leaf(1, 3)), 1, api.OK)
	check(t, "NEG", got(g.Node(api.Neg, 1, 0)), 2, api.OK)
	check(t, "Scale", got(g.Scale(2, 1, 2)), 3, api.OK)
	check(t, "MUL", got(g.Node(api.Mul, 3, 3)), 4, api.OK)
	check(t, "Leaf", got(g.Leaf(-1, 3)), 5, api.OK)
	check(t, "Scale of a Scale", got(g.Scale(3, 1, 2)), 6, api.OK)
	checkLen(t, g, 6)
}

// P4: op, parts and their order each make another node; what is there already comes again.
func TestSameNode(t *testing.T) {
	g := leaves(t, 2)
	n := 2
	type made struct{ op, a, b int }
	var all []made
	for _, op := range twoParts {
		all = append(all, made{op, 1, 2}, made{op, 2, 1}, made{op, 1, 1})
	}
	for _, op := range onePart {
		all = append(all, made{op, 1, 0}, made{op, 2, 0})
	}
	for i, m := range all {
		check(t, "a new node", got(g.Node(m.op, m.a, m.b)), n+i+1, api.OK)
	}
	for i, m := range all {
		check(t, "a node that is there", got(g.Node(m.op, m.a, m.b)), n+i+1, api.OK)
	}
	checkLen(t, g, n+len(all))
}

// P3, P4: of NEG and ABS b is nothing: it is neither looked at nor told apart.
func TestOnePart(t *testing.T) {
	for _, op := range onePart {
		g := leaves(t, 3)
		for _, b := range append([]int{1, 2, 3}, noNodes...) {
			check(t, "one of one part", got(g.Node(op, 1, b)), 4, api.OK)
		}
		checkLen(t, g, 4)
	}
}

// P4: a Scale is neither the leaf of its number nor the Scale of another node.
func TestScaleIsOfItsPart(t *testing.T) {
	g := leaves(t, 2)
	check(t, "Scale", got(g.Scale(1, 1, 2)), 3, api.OK)
	check(t, "Scale of another", got(g.Scale(2, 1, 2)), 4, api.OK)
	check(t, "Scale by another", got(g.Scale(1, -1, 2)), 5, api.OK)
	check(t, "Scale by 1", got(g.Scale(1, 1, 1)), 6, api.OK)
	check(t, "Scale by 0", got(g.Scale(1, 0, 5)), 7, api.OK)
	check(t, "Scale by 0 once more", got(g.Scale(1, 0, -9)), 7, api.OK)
	check(t, "Scale once more", got(g.Scale(2, -50, -100)), 4, api.OK)
	check(t, "the leaf", got(g.Leaf(1, 2)), 1, api.OK)
	checkLen(t, g, 7)
}

// P3: handles that are none, and behind them ops that are none.
func TestNoHandle(t *testing.T) {
	g := leaves(t, 3)
	for _, h := range noNodes {
		for _, op := range append(onePart, append(twoParts, noOps...)...) {
			check(t, "Node of no a", got(g.Node(op, h, 1)), 0, api.ErrHandle)
		}
		for _, op := range twoParts {
			check(t, "Node of no b", got(g.Node(op, 1, h)), 0, api.ErrHandle)
		}
		for _, op := range noOps {
			check(t, "an op that is none takes one", got(g.Node(op, 1, h)), 0, api.ErrRange)
		}
		check(t, "Scale of none", got(g.Scale(h, 1, 2)), 0, api.ErrHandle)
		check(t, "Scale of none by nothing", got(g.Scale(h, 1, 0)), 0, api.ErrHandle)
	}
	for _, op := range noOps {
		check(t, "no op", got(g.Node(op, 3, 3)), 0, api.ErrRange)
	}
	checkLen(t, g, 3)
}

// P3: the parts were there ahead of the node: its own handle to be is none yet.
func TestOwnPart(t *testing.T) {
	g := leaves(t, 1)
	check(t, "NEG of itself", got(g.Node(api.Neg, 2, 0)), 0, api.ErrHandle)
	check(t, "AVG with itself", got(g.Node(api.Avg, 1, 2)), 0, api.ErrHandle)
	check(t, "Scale of itself", got(g.Scale(2, 1, 2)), 0, api.ErrHandle)
	check(t, "NEG", got(g.Node(api.Neg, 1, 0)), 2, api.OK)
	check(t, "AVG with the last one", got(g.Node(api.Avg, 1, 2)), 3, api.OK)
}
