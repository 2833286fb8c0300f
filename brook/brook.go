// Package brook: numbers that come digit by digit: see DOC.md.
package brook

import "brook/api"

// Graph is nodes, numbers made of others.
type Graph struct {
	nodes  []*node // the node of handle h stands at h - 1
	closed bool
}

// New makes a graph without nodes.
func New() *Graph { return &Graph{} }

// Leaf makes a node that is p / q (P3).
func (g *Graph) Leaf(p int64, q int64) (int, api.Errno) {
	if g.closed {
		return 0, api.ErrClosed
	}
	r, ok := lowestTerms(p, q)
	if !ok {
		return 0, api.ErrRange
	}
	return g.add(madeOf(api.Leaf, 0, 0, r))
}

// Node makes a node of others (P3).
func (g *Graph) Node(op int, a int, b int) (int, api.Errno) {
	one, two := takesOne(op), takesTwo(op)
	switch {
	case g.closed:
		return 0, api.ErrClosed
	case !g.has(a), two && !g.has(b):
		return 0, api.ErrHandle
	case !one && !two:
		return 0, api.ErrRange
	}
	if one {
		b = 0 // b is nothing here, so it must not tell two nodes apart
	}
	return g.add(madeOf(op, a, b, ratio{}))
}

// Scale makes a node that is a times p / q (P3).
func (g *Graph) Scale(a int, p int64, q int64) (int, api.Errno) {
	if g.closed {
		return 0, api.ErrClosed
	}
	if !g.has(a) {
		return 0, api.ErrHandle
	}
	r, ok := lowestTerms(p, q)
	if !ok {
		return 0, api.ErrRange
	}
	return g.add(madeOf(api.Scale, a, 0, r))
}

// Ask tells a node's first digits (P5).
func (g *Graph) Ask(h int, n int) ([]int, api.Errno) {
	switch {
	case g.closed:
		return nil, api.ErrClosed
	case !g.has(h):
		return nil, api.ErrHandle
	case n < 0 || n > api.MaxDigits:
		return nil, api.ErrMany
	}
	out := make([]int, 0, n)
	for d := range g.first(h, n) {
		out = append(out, d)
	}
	return out, api.OK
}

// Digits goes through a node's digits (P7).
func (g *Graph) Digits(h int) func(yield func(int) bool) {
	return g.first(h, api.MaxDigits)
}

// Made tells how many digits a node has made (P6).
func (g *Graph) Made(h int) (int, api.Errno) {
	switch {
	case g.closed:
		return 0, api.ErrClosed
	case !g.has(h):
		return 0, api.ErrHandle
	}
	return len(g.nodes[h-1].digits), api.OK
}

// Len tells how many nodes there are (P4).
func (g *Graph) Len() int { return len(g.nodes) }

// Close closes the graph (P8).
func (g *Graph) Close() { g.closed = true }

func (g *Graph) has(h int) bool { return 1 <= h && h <= len(g.nodes) }

// add looks for the node ahead of looking for room: one that is there already
// needs none, so a full graph still answers it.
func (g *Graph) add(m makeup) (int, api.Errno) {
	for i, n := range g.nodes {
		if n.of == m {
			return i + 1, api.OK
		}
	}
	if len(g.nodes) >= api.MaxNodes {
		return 0, api.ErrFull
	}
	g.nodes = append(g.nodes, &node{of: m})
	return len(g.nodes), api.OK
}

// first goes through the node's first n digits. It may be kept and gone through
// later, and yield may make any call: so h and Close are looked at within, and
// each digit is made no sooner than its turn comes. A nil yield never says true.
func (g *Graph) first(h int, n int) func(yield func(int) bool) {
	return func(yield func(int) bool) {
		if yield == nil || !g.has(h) {
			return
		}
		for i := range n {
			if g.closed || !yield(g.digit(h, i)) {
				return
			}
		}
	}
}

// digit is the node's digit at place i, the first one at 0. A crew stands for one
// digit alone: while yield has the digit no goroutine may be left, for a call made
// there must find and leave none, and yield may never come back.
func (g *Graph) digit(h int, i int) int {
	if made := g.nodes[h-1].digits; i < len(made) {
		return made[i]
	}
	c := startCrew(g.nodes, h)
	defer c.end()
	return c.workers[h].tell(i, make(chan int))
}
