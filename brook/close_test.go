package brook_test

import (
	"runtime"
	"testing"
	"time"

	"brook/api"
	"brook/brook"
)

// P8, P3, P4: behind Close every call that makes nodes is refused, right or wrong, and Len goes on.
func TestClose(t *testing.T) {
	g := leaves(t, 2)
	check(t, "NEG", got(g.Node(api.Neg, 1, 0)), 3, api.OK)
	for range 3 {
		g.Close()
		check(t, "a new Leaf", got(g.Leaf(1, 9)), 0, api.ErrClosed)
		check(t, "a Leaf that is there", got(g.Leaf(1, 2)), 0, api.ErrClosed)
		check(t, "a Leaf by nothing", got(g.Leaf(1, 0)), 0, api.ErrClosed)
		check(t, "a new Node", got(g.Node(api.Avg, 1, 2)), 0, api.ErrClosed)
		check(t, "a Node that is there", got(g.Node(api.Neg, 1, 0)), 0, api.ErrClosed)
		check(t, "a Node of none", got(g.Node(api.Neg, 99, 0)), 0, api.ErrClosed)
		check(t, "a Node of no op", got(g.Node(0, 1, 0)), 0, api.ErrClosed)
		check(t, "a new Scale", got(g.Scale(1, 1, 2)), 0, api.ErrClosed)
		check(t, "a Scale of none by nothing", got(g.Scale(0, 1, 0)), 0, api.ErrClosed)
		checkLen(t, g, 3)
	}
}

// P8: a graph without nodes closes too.
func TestCloseEmpty(t *testing.T) {
	g := brook.New()
	g.Close()
	check(t, "Leaf", got(g.Leaf(1, 2)), 0, api.ErrClosed)
	check(t, "Node", got(g.Node(api.Neg, 1, 0)), 0, api.ErrClosed)
	check(t, "Scale", got(g.Scale(1, 1, 2)), 0, api.ErrClosed)
	checkLen(t, g, 0)
}

// P2, P8: closing one graph closes no other.
func TestCloseAlone(t *testing.T) {
	g, other := leaves(t, 2), leaves(t, 3)
	g.Close()
	check(t, "a Leaf of the other", got(other.Leaf(1, 9)), 4, api.OK)
	check(t, "a Leaf of a later one", got(brook.New().Leaf(1, 9)), 1, api.OK)
	checkLen(t, g, 2)
	checkLen(t, other, 4)
}

// P8: no goroutine is left behind by any call.
func TestNoGoroutineLeft(t *testing.T) {
	before := runtime.NumGoroutine()
	for range 50 {
		g := leaves(t, 3)
		g.Node(api.Avg, 1, 2)
		g.Node(api.Neg, 99, 0)
		g.Scale(1, 1, 2)
		g.Ask(5, 9)
		g.Ask(4, 0)
		g.Ask(99, 9)
		g.Ask(4, -1)
		g.Made(4)
		g.Len()
		g.Close()
		g.Leaf(1, 2)
		g.Ask(4, 9)
	}
	// The runtime's own may come and go, so only those that stay are counted.
	for try := 0; runtime.NumGoroutine() > before; try++ {
		if try == 100 {
			t.Fatalf("P8: %d goroutines, %d ahead of the calls", runtime.NumGoroutine(), before)
		}
		time.Sleep(time.Millisecond)
	}
}
