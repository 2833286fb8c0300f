package brook_test

import (
	"math/big"
	"testing"

	"brook/api"
	"brook/brook"
)

// P3: which p / q are taken, at every pair of the edges.
func TestRangeOfLeafAndScale(t *testing.T) {
	for _, p := range edges {
		for _, q := range edges {
			h, e := 2, api.OK
			if quotient(p, q) == nil {
				h, e = 0, api.ErrRange
			}
			g := brook.New()
			check(t, "the first leaf", got(g.Leaf(1, 7)), 1, api.OK)
			if a := got(g.Leaf(p, q)); a != (answer{h, e}) {
				t.Errorf("P3: Leaf(%d, %d) = %v, want %d, %d", p, q, a, h, e)
			}
			g = brook.New()
			check(t, "the first leaf", got(g.Leaf(1, 7)), 1, api.OK)
			if a := got(g.Scale(1, p, q)); a != (answer{h, e}) {
				t.Errorf("P3: Scale(1, %d, %d) = %v, want %d, %d", p, q, a, h, e)
			}
		}
	}
}

// P3: the bounds themselves are taken, and what is the next beyond them is not.
func TestBounds(t *testing.T) {
	for _, c := range []struct {
		p, q int64
		e    api.Errno
	}{
		{1, 1, api.OK}, {-1, -1, api.OK}, {-1, 1, api.OK}, {1, -1, api.OK},
		{most, most, api.OK}, {least, least, api.OK}, {most, -most, api.OK}, {-most, most, api.OK},
		{most, least, api.OK}, {-most, least, api.OK}, {most - 1, most, api.OK},
		{least, most, api.ErrRange}, {least, -most, api.ErrRange}, {most, most - 1, api.ErrRange}, {most, 1 - most, api.ErrRange},
		{least, 1, api.ErrRange}, {least, -1, api.ErrRange}, {2, 1, api.ErrRange}, {-2, 1, api.ErrRange},
		{0, 1, api.OK}, {0, least, api.OK}, {0, most, api.OK}, {1, least, api.OK}, {-1, least, api.OK},
		{0, 0, api.ErrRange}, {1, 0, api.ErrRange}, {-1, 0, api.ErrRange}, {least, 0, api.ErrRange}, {most, 0, api.ErrRange},
	} {
		h := 1
		if c.e != api.OK {
			h = 0
		}
		if a := got(brook.New().Leaf(c.p, c.q)); a != (answer{h, c.e}) {
			t.Errorf("P3: Leaf(%d, %d) = %v, want %d, %d", c.p, c.q, a, h, c.e)
		}
	}
}

type fraction struct {
	p, q int64
	r    *big.Rat
}

// fractions are those of the edges and of small numbers that are from -1 to 1.
func fractions() []fraction {
	var out []fraction
	add := func(p, q int64) {
		if r := quotient(p, q); r != nil {
			out = append(out, fraction{p, q, r})
		}
	}
	for _, p := range edges {
		for _, q := range edges {
			add(p, q)
		}
	}
	for p := int64(-4); p <= 4; p++ {
		for q := int64(-12); q <= 12; q++ {
			add(p, q)
		}
	}
	return out
}

// P4: two leaves are the same just where their numbers are; so two that a node is scaled by.
func TestSameNumber(t *testing.T) {
	all := fractions()
	for _, x := range all {
		for _, y := range all {
			want := 2
			if x.r.Cmp(y.r) == 0 {
				want = 1
			}
			g := brook.New()
			g.Leaf(x.p, x.q)
			if a := got(g.Leaf(y.p, y.q)); a != (answer{want, api.OK}) {
				t.Fatalf("P4: behind Leaf(%d, %d), Leaf(%d, %d) = %v, want %d", x.p, x.q, y.p, y.q, a, want)
			}
			g = brook.New()
			g.Leaf(1, 7)
			g.Scale(1, x.p, x.q)
			if a := got(g.Scale(1, y.p, y.q)); a != (answer{want + 1, api.OK}) {
				t.Fatalf("P4: behind Scale(1, %d, %d), Scale(1, %d, %d) = %v, want %d", x.p, x.q, y.p, y.q, a, want+1)
			}
			checkLen(t, g, want+1)
		}
	}
}

// The section Examples: Leaf(2, 4) is the same node as Leaf(1, 2).
func TestExampleOfTheSameLeaf(t *testing.T) {
	g := brook.New()
	check(t, "Leaf(1, 2)", got(g.Leaf(1, 2)), 1, api.OK)
	check(t, "Leaf(2, 4)", got(g.Leaf(2, 4)), 1, api.OK)
	check(t, "Leaf(-1, -2)", got(g.Leaf(-1, -2)), 1, api.OK)
	check(t, "Leaf(1, -2)", got(g.Leaf(1, -2)), 2, api.OK)
	check(t, "Leaf(least / 2, least)", got(g.Leaf(least/2, least)), 1, api.OK)
	checkLen(t, g, 2)
}
