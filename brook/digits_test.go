package brook_test

import (
	"math"
	"math/big"
	"slices"
	"testing"

	"brook/api"
	"brook/brook"
)

// repeat is n digits: those of first, and then the ones of again over and over.
func repeat(n int, first []int, again ...int) []int {
	out := slices.Clone(first)
	for i := 0; len(out) < n; i++ {
		out = append(out, again[i%len(again)])
	}
	return out[:n]
}

// P5: the section Examples, word by word.
func TestExamples(t *testing.T) {
	g := brook.New()
	third, _ := g.Leaf(1, 3)
	neg, _ := g.Node(api.Neg, third, 0)
	checkAsk(t, g, neg, 0, -1, 0, -1, 0)
	checkMade(t, g, 5, 5)
	checkAsk(t, g, third, 0, 1, 0, 1, 0, 1)
	checkMade(t, g, 6, 5)
	half, _ := g.Leaf(1, 2)
	checkAsk(t, g, half, 0, 1, 1, 1)
	least, _ := g.Leaf(-1, 1)
	checkAsk(t, g, least, -1, -1, -1)
	fresh, _ := g.Leaf(1, 7)
	for _, h := range []int{third, neg, half, least, fresh} {
		b, _ := g.Node(api.Abs, h, 0)
		checkAsk(t, g, b, 1)
		check(t, "P6: Made of an ABS", got(g.Made(b)), 1, api.OK)
	}
	checkMade(t, g, 6, 5, 4, 3, 0)
	none, _ := g.Scale(fresh, 0, 5)
	checkAsk(t, g, none, make([]int, api.MaxDigits)...)
	check(t, "P6: Made of a SCALE by 0", got(g.Made(none)), api.MaxDigits, api.OK)
	checkMade(t, g, 6, 5, 4, 3, 0)
}

// P5: a leaf where a digit is just sure: at -1, -1/2, 0, 1/2 and 1, by the least and the greatest numbers too.
func TestLeafEdges(t *testing.T) {
	for _, c := range []struct {
		p, q   int64
		digits []int
	}{
		{-1, 1, repeat(64, nil, -1)}, {1, 1, repeat(64, nil, 1)}, {0, 1, repeat(64, nil, 0)},
		{-1, 2, repeat(64, []int{0}, -1)}, {1, 2, repeat(64, []int{0}, 1)},
		{least, least, repeat(64, nil, 1)}, {most, most, repeat(64, nil, 1)}, {most, -most, repeat(64, nil, -1)},
		{least / 2, least, repeat(64, []int{0}, 1)}, {-(least / 2), least, repeat(64, []int{0}, -1)}, {0, least, repeat(64, nil, 0)},
		{1, least, repeat(64, repeat(63, nil, 0), -1)}, {-1, least, repeat(64, repeat(63, nil, 0), 1)},
		{-most, least, repeat(64, repeat(62, nil, 1), 0, 1)}, {most, least, repeat(64, repeat(62, nil, -1), 0, -1)},
		{3, 4, repeat(64, []int{1, 0}, 1)}, {1, 4, repeat(64, []int{0, 0}, 1)}, {2, 3, repeat(64, nil, 1, 0)}, {1, -3, repeat(64, nil, 0, -1)},
	} {
		g := brook.New()
		g.Leaf(c.p, c.q)
		if l, e := g.Ask(1, api.MaxDigits); e != api.OK || !slices.Equal(l, c.digits) {
			t.Errorf("P5: the digits of %d / %d are %v, %d, want %v", c.p, c.q, l, e, c.digits)
		}
		checkMade(t, g, api.MaxDigits)
	}
}

// P5, P6: one of every op, reckoned by hand: its digits, and how many each part has made behind every digit.
func TestEveryOp(t *testing.T) {
	for _, c := range []struct {
		name   string
		a, b   *big.Rat
		of     call
		digits []int
		parts  []int // made by a and by b behind so many digits of the node
	}{
		{"-1/3 turned", big.NewRat(-1, 3), big.NewRat(1, 5), call{kind: 'n', op: api.Neg, a: 1}, []int{0, 1, 0, 1}, []int{0, 1, 2, 3, 4}},
		{"mean of 1/2 and 1", big.NewRat(1, 2), big.NewRat(1, 1), call{kind: 'n', op: api.Avg, a: 1, b: 2}, []int{1, 0, 1}, []int{0, 2, 2, 3}},
		{"1/2 times 1", big.NewRat(1, 2), big.NewRat(1, 1), call{kind: 'n', op: api.Mul, a: 1, b: 2}, []int{0, 1, 1}, []int{0, 1, 2, 4}},
		{"1/2 of 1/3", big.NewRat(1, 3), big.NewRat(1, 5), call{kind: 's', a: 1, p: 1, q: 2}, []int{0, 0, 1, 0}, []int{0, 0, 1, 2, 3}},
		{"lesser of 1/2 and -1/2", big.NewRat(1, 2), big.NewRat(-1, 2), call{kind: 'n', op: api.Min, a: 1, b: 2}, []int{0, -1, -1}, []int{0, 1, 2, 3}},
		{"greater of 1/2 and -1/2", big.NewRat(1, 2), big.NewRat(-1, 2), call{kind: 'n', op: api.Max, a: 1, b: 2}, []int{0, 1, 1}, []int{0, 1, 2, 3}},
		{"-1/3 without its sign", big.NewRat(-1, 3), big.NewRat(1, 5), call{kind: 'n', op: api.Abs, a: 1}, []int{1, -1, 0, 1}, []int{0, 0, 1, 3, 4}},
	} {
		g := brook.New()
		g.Leaf(c.a.Num().Int64(), c.a.Denom().Int64())
		g.Leaf(c.b.Num().Int64(), c.b.Denom().Int64())
		check(t, c.name, do(g, c.of), 3, api.OK)
		for n := range len(c.digits) + 1 {
			checkAsk(t, g, 3, c.digits[:n]...)
			ofB := 0
			if c.of.b != 0 {
				ofB = c.parts[n]
			}
			checkMade(t, g, c.parts[n], ofB, n)
		}
		if t.Failed() {
			t.Fatal(c.name)
		}
	}
}

// P5, P6: where a and b are one node, each is taken on its own: what is known
// of the one tells nothing of the other, and the part makes each digit once.
func TestOnePartTwice(t *testing.T) {
	g := brook.New()
	g.Leaf(1, 2)
	g.Node(api.Mul, 1, 1)
	for n, parts := range []int{0, 1, 1, 2, 4} {
		checkAsk(t, g, 2, []int{0, 0, 1, 1}[:n]...)
		checkMade(t, g, parts, n)
	}
	// A square is never below 0, but MUL does not know it: it takes digits where ABS takes none.
	g = brook.New()
	g.Leaf(0, 1)
	g.Node(api.Mul, 1, 1)
	g.Node(api.Abs, 1, 0)
	checkAsk(t, g, 3, 1)
	checkMade(t, g, 0, 0, 1)
	checkAsk(t, g, 2, 0)
	checkMade(t, g, 1, 1, 1)
	for _, op := range twoParts {
		for _, f := range fractions() {
			g, r := brook.New(), &reckoner{}
			both(t, g, r, call{kind: 'l', p: f.p, q: f.q})
			agree(t, g, r, both(t, g, r, call{kind: 'n', op: op, a: 1, b: 1}), 9)
		}
	}
}

// P5: leaves and SCALEs at all the edges of 64 bits.
func TestEdgeNumbers(t *testing.T) {
	for _, f := range fractions() {
		g, r := brook.New(), &reckoner{}
		both(t, g, r, call{kind: 'l', p: f.p, q: f.q})
		agree(t, g, r, 1, api.MaxDigits)
		g, r = brook.New(), &reckoner{}
		both(t, g, r, call{kind: 'l', p: -2, q: 3})
		agree(t, g, r, both(t, g, r, call{kind: 's', a: 1, p: f.p, q: f.q}), 20)
	}
	for _, n := range []int64{least, least + 1, -1, 1, most - 1, most} {
		g, r := brook.New(), &reckoner{}
		both(t, g, r, call{kind: 'l', p: n, q: least})
		agree(t, g, r, both(t, g, r, call{kind: 's', a: 1, p: n, q: least}), api.MaxDigits)
	}
}

// P5: two parts at all pairs of numbers where a digit is just sure.
func TestEveryPair(t *testing.T) {
	var all []int64
	for n := int64(-8); n <= 8; n++ {
		all = append(all, n)
	}
	for _, op := range append(onePart, twoParts...) {
		for _, p := range all {
			for _, q := range all {
				g, r := brook.New(), &reckoner{}
				a := both(t, g, r, call{kind: 'l', p: p, q: 8})
				b := both(t, g, r, call{kind: 'l', p: q, q: 8})
				h := both(t, g, r, call{kind: 'n', op: op, a: a, b: b})
				for n := range 7 {
					agree(t, g, r, h, n)
				}
			}
		}
	}
}

// P5, P6: no digits asked for: none are made.
func TestAskNone(t *testing.T) {
	g := leaves(t, 2)
	g.Node(api.Mul, 1, 2)
	for h := 1; h <= 3; h++ {
		checkAsk(t, g, h)
	}
	checkMade(t, g, 0, 0, 0)
	checkAsk(t, g, 1, 0, 1, 1)
	checkAsk(t, g, 1)
	checkMade(t, g, 3, 0, 0)
}

// P5: MaxDigits are told, one more are not, and none of them is made.
func TestAskMany(t *testing.T) {
	g := leaves(t, 1)
	g.Node(api.Neg, 1, 0)
	tooMany := []int{api.MaxDigits + 1, api.MaxDigits + 2, 1 << 32, 1<<32 + 1, math.MaxInt, -1, -2, -api.MaxDigits, math.MinInt}
	for _, n := range tooMany {
		checkRefused(t, g, 2, n, api.ErrMany)
	}
	checkMade(t, g, 0, 0)
	checkAsk(t, g, 2, repeat(api.MaxDigits, []int{0}, -1)...)
	checkMade(t, g, api.MaxDigits, api.MaxDigits)
	for _, n := range tooMany {
		checkRefused(t, g, 2, n, api.ErrMany)
	}
	checkMade(t, g, api.MaxDigits, api.MaxDigits)
}

// P6: a part makes digits beyond MaxDigits, where those above it need them.
func TestMadeBeyondMaxDigits(t *testing.T) {
	g, r := brook.New(), &reckoner{}
	h := both(t, g, r, call{kind: 'l', p: 99, q: 100})
	for range 5 {
		h = both(t, g, r, call{kind: 'n', op: api.Mul, a: h, b: h})
	}
	agree(t, g, r, h, api.MaxDigits)
	if m, _ := g.Made(1); m <= api.MaxDigits {
		t.Errorf("P6: Made(1) = %d, which this test needs above %d", m, api.MaxDigits)
	}
	agree(t, g, r, 1, api.MaxDigits)
}

// P1, P5, P6: no handle, and several errors at once: the first one named is the answer, and nothing is made.
func TestAskOfNone(t *testing.T) {
	g := leaves(t, 3)
	checkAsk(t, g, 2, 0, 1)
	for _, h := range noNodes {
		for _, n := range []int{0, 1, api.MaxDigits, api.MaxDigits + 1, -1, math.MinInt, math.MaxInt} {
			checkRefused(t, g, h, n, api.ErrHandle)
		}
		check(t, "Made of none", got(g.Made(h)), 0, api.ErrHandle)
	}
	checkMade(t, g, 0, 2, 0)
	empty := brook.New()
	checkRefused(t, empty, 1, 1, api.ErrHandle)
	check(t, "Made of an empty graph", got(empty.Made(1)), 0, api.ErrHandle)
	checkLen(t, g, 3)
}

// P1, P5, P6, P8: behind Close every Ask and Made is refused, also of digits that are there.
func TestAskBehindClose(t *testing.T) {
	g := leaves(t, 3)
	checkAsk(t, g, 2, 0, 1)
	g.Close()
	for _, h := range append([]int{1, 2, 3}, noNodes...) {
		for _, n := range []int{0, 1, 2, api.MaxDigits, api.MaxDigits + 1, -1, math.MinInt, math.MaxInt} {
			checkRefused(t, g, h, n, api.ErrClosed)
		}
		check(t, "Made behind Close", got(g.Made(h)), 0, api.ErrClosed)
	}
	checkLen(t, g, 3)
	empty := brook.New()
	empty.Close()
	checkRefused(t, empty, 1, 1, api.ErrClosed)
	check(t, "Made of an empty graph", got(empty.Made(1)), 0, api.ErrClosed)
}

// P2: lists that come out are their owner's, spare room too: written over, they change nothing.
func TestListsAreNew(t *testing.T) {
	g := leaves(t, 1)
	h, _ := g.Node(api.Neg, 1, 0)
	want := repeat(api.MaxDigits, []int{0}, -1)
	spoil := func(l []int) {
		l = l[:cap(l)]
		for i := range l {
			l[i] = 7
		}
	}
	first, _ := g.Ask(h, 5)
	second, _ := g.Ask(h, 5)
	spoil(first)
	if !slices.Equal(second, want[:5]) {
		t.Errorf("P2: a list is %v behind writing over another", second)
	}
	spoil(append(second, 7))
	for n := range api.MaxDigits + 1 {
		checkAsk(t, g, h, want[:n]...)
		l, _ := g.Ask(h, n)
		spoil(l)
		l, _ = g.Ask(1, n)
		spoil(l)
		checkAsk(t, g, h, want[:n]...)
	}
	checkMade(t, g, api.MaxDigits, api.MaxDigits)
}
