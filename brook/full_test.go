package brook_test

import (
	"testing"

	"brook/api"
)

// P3: there is room for MaxNodes nodes, whichever call makes the last one, and for none behind it.
func TestLastNode(t *testing.T) {
	for last := range 4 {
		g := leaves(t, api.MaxNodes-1)
		switch last {
		case 0:
			check(t, "the last Leaf", got(g.Leaf(-1, 2)), api.MaxNodes, api.OK)
		case 1:
			check(t, "the last Node of one", got(g.Node(api.Abs, 23, 0)), api.MaxNodes, api.OK)
		case 2:
			check(t, "the last Node of two", got(g.Node(api.Max, 1, 23)), api.MaxNodes, api.OK)
		case 3:
			check(t, "the last Scale", got(g.Scale(23, 1, 1)), api.MaxNodes, api.OK)
		}
		check(t, "a Leaf too many", got(g.Leaf(1, 100)), 0, api.ErrFull)
		check(t, "a Node of one too many", got(g.Node(api.Neg, 24, 0)), 0, api.ErrFull)
		check(t, "a Node of two too many", got(g.Node(api.Min, 24, 24)), 0, api.ErrFull)
		check(t, "a Scale too many", got(g.Scale(24, 1, 2)), 0, api.ErrFull)
		checkLen(t, g, api.MaxNodes)
	}
}

// P3, P4: a full graph still answers the nodes that are there, and names errors in their order.
func TestFullGraph(t *testing.T) {
	g := leaves(t, api.MaxNodes-3)
	check(t, "NEG", got(g.Node(api.Neg, 1, 0)), 22, api.OK)
	check(t, "MUL", got(g.Node(api.Mul, 1, 2)), 23, api.OK)
	check(t, "Scale", got(g.Scale(3, 1, 2)), 24, api.OK)
	for range 2 {
		check(t, "the Leaf that is there", got(g.Leaf(-3, -9)), 2, api.OK)
		check(t, "the NEG that is there", got(g.Node(api.Neg, 1, 99)), 22, api.OK)
		check(t, "the MUL that is there", got(g.Node(api.Mul, 1, 2)), 23, api.OK)
		check(t, "the Scale that is there", got(g.Scale(3, -2, -4)), 24, api.OK)
		check(t, "MUL the other way round", got(g.Node(api.Mul, 2, 1)), 0, api.ErrFull)
		check(t, "Leaf by nothing", got(g.Leaf(1, 0)), 0, api.ErrRange)
		check(t, "Leaf above 1", got(g.Leaf(3, 2)), 0, api.ErrRange)
		check(t, "no op", got(g.Node(9, 1, 0)), 0, api.ErrRange)
		check(t, "Node of none", got(g.Node(api.Avg, 1, 25)), 0, api.ErrHandle)
		check(t, "no op of none", got(g.Node(9, 25, 0)), 0, api.ErrHandle)
		check(t, "Scale of none", got(g.Scale(25, 1, 2)), 0, api.ErrHandle)
		check(t, "Scale by nothing", got(g.Scale(1, 1, 0)), 0, api.ErrRange)
		check(t, "Scale of none by nothing", got(g.Scale(25, 1, 0)), 0, api.ErrHandle)
	}
	checkLen(t, g, api.MaxNodes)
	g.Close()
	check(t, "Leaf that is there, closed", got(g.Leaf(1, 3)), 0, api.ErrClosed)
	check(t, "no op of none, closed", got(g.Node(9, 25, 0)), 0, api.ErrClosed)
	check(t, "Scale of none by nothing, closed", got(g.Scale(25, 1, 0)), 0, api.ErrClosed)
	checkLen(t, g, api.MaxNodes)
}
