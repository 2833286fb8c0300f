package brook_test

import (
	"iter"
	"math/big"
	"runtime"
	"slices"
	"testing"

	"brook/api"
	"brook/brook"
)

// gone is all digits that a going comes to, if it is not left.
func gone(seq func(yield func(int) bool)) []int { return slices.Collect(iter.Seq[int](seq)) }

// pair is a graph and its reckoner, both of the same calls.
func pair(t *testing.T, calls []call) (*brook.Graph, *reckoner) {
	t.Helper()
	g, r := brook.New(), &reckoner{}
	for _, c := range calls {
		both(t, g, r, c)
	}
	return g, r
}

// checkGone holds a whole going against digits that are given.
func checkGone(t *testing.T, what string, seq func(yield func(int) bool), want []int) {
	t.Helper()
	if have := gone(seq); !slices.Equal(have, want) {
		t.Errorf("P7: %s goes through %v, want %v", what, have, want)
	}
}

// P7: the section Examples, gone through to the end.
func TestGoingThroughExamples(t *testing.T) {
	g := brook.New()
	third, _ := g.Leaf(1, 3)
	neg, _ := g.Node(api.Neg, third, 0)
	half, _ := g.Leaf(1, 2)
	one, _ := g.Leaf(-1, 1)
	none, _ := g.Scale(half, 0, 5)
	checkGone(t, "SCALE by 0", g.Digits(none), make([]int, api.MaxDigits))
	checkMade(t, g, 0, 0, 0, 0, api.MaxDigits)
	checkGone(t, "NEG of 1/3", g.Digits(neg), repeat(api.MaxDigits, nil, 0, -1))
	checkMade(t, g, api.MaxDigits, api.MaxDigits, 0, 0)
	checkGone(t, "1/3", g.Digits(third), repeat(api.MaxDigits, nil, 0, 1))
	checkGone(t, "1/2", g.Digits(half), repeat(api.MaxDigits, []int{0}, 1))
	checkGone(t, "-1", g.Digits(one), repeat(api.MaxDigits, nil, -1))
	checkMade(t, g, api.MaxDigits, api.MaxDigits, api.MaxDigits, api.MaxDigits, api.MaxDigits)
	for h := range 5 {
		fresh, _ := g.Leaf(1, int64(h+7))
		b, _ := g.Node(api.Abs, fresh, 0)
		for d := range g.Digits(b) {
			if d != 1 {
				t.Errorf("P7: ABS begins with %d", d)
			}
			break
		}
		check(t, "P6: Made of the ABS", got(g.Made(b)), 1, api.OK)
		check(t, "P6: Made beneath it", got(g.Made(fresh)), 0, api.OK)
	}
}

// P7, P5, P9: to the end it goes through MaxDigits digits, the same as Ask tells of a graph of its own.
func TestGoneToItsEnd(t *testing.T) {
	for seed := range uint64(60) {
		calls := sprouts(seed, 3+int(seed%8))
		want := tale(t, grown(calls))
		g := grown(calls)
		for h := g.Len(); h >= 1; h-- {
			have := gone(g.Digits(h))
			if len(have) != api.MaxDigits || !slices.Equal(have, want[h-1]) {
				t.Fatalf("P7: seed %d: Digits(%d) goes through %d digits, %v, want %v", seed, h, len(have), have, want[h-1])
			}
		}
		if have := tale(t, g); !sameTale(have, want) {
			t.Fatalf("P6, P9: seed %d: behind goings %v, behind Asks %v", seed, have, want)
		}
	}
}

// P7: more digits are there than MaxDigits, those above took them: no more than MaxDigits are gone through.
func TestGoneBeyondMaxDigits(t *testing.T) {
	g, r := brook.New(), &reckoner{}
	h := both(t, g, r, call{kind: 'l', p: 99, q: 100})
	for range 5 {
		h = both(t, g, r, call{kind: 'n', op: api.Mul, a: h, b: h})
	}
	for k := h; k >= 1; k-- {
		want, _ := r.ask(k, api.MaxDigits)
		checkGone(t, "a node beneath others", g.Digits(k), want)
		agreeMade(t, g, r, "Digits", k, api.MaxDigits)
	}
	if m, _ := g.Made(1); m <= api.MaxDigits {
		t.Errorf("P6: Made(1) = %d, which this test needs above %d", m, api.MaxDigits)
	}
}

// P7, P6: at each turn the digit, and what every node has made: as the reckoner
// has it when it is asked for one digit more, none of them ahead of its turn.
func TestEachAtItsTurn(t *testing.T) {
	for seed := range uint64(50) {
		g, r := pair(t, sprouts(seed, 2+int(seed%9)))
		for h := len(r.nodes); h >= 1; h -= 1 + int(seed%3) {
			seq, i := g.Digits(h), 0
			agreeMade(t, g, r, "calling Digits", h, 0)
			for d := range seq {
				if want, ok := r.turn(h, i); !ok || d != want {
					t.Fatalf("P7: seed %d: digit %d of node %d is %d, want %d, %v", seed, i, h, d, want, ok)
				}
				i++
				agreeMade(t, g, r, "Digits", h, i)
			}
			if i != api.MaxDigits {
				t.Fatalf("P7: seed %d: Digits(%d) goes through %d digits", seed, h, i)
			}
			agreeMade(t, g, r, "Digits gone to the end", h, i)
		}
	}
}

// leaving is a way to leave a going behind its digit n (1 or more); it answers the digits that came.
type leaving struct {
	name string
	by   func(seq func(yield func(int) bool), n int) []int
}

var leavings = []leaving{
	{"break", leaveByBreak},
	{"a yield that says false", leaveByFalse},
	{"return", leaveByReturn},
	{"a label outside", leaveByLabel},
	{"panic", leaveByPanic},
	{"the goroutine's end", leaveByGoexit},
	{"a pull that is stopped", leaveByStop},
}

func leaveByBreak(seq func(yield func(int) bool), n int) (came []int) {
	for d := range seq {
		if came = append(came, d); len(came) == n {
			break
		}
	}
	return came
}

// leaveByFalse says false ever after, so that one who asks on would be seen.
func leaveByFalse(seq func(yield func(int) bool), n int) (came []int) {
	seq(func(d int) bool {
		came = append(came, d)
		return len(came) < n
	})
	return came
}

func leaveByReturn(seq func(yield func(int) bool), n int) (came []int) {
	for d := range seq {
		if came = append(came, d); len(came) == n {
			return came
		}
	}
	return nil
}

func leaveByLabel(seq func(yield func(int) bool), n int) (came []int) {
outside:
	for range 1 {
		for d := range seq {
			if came = append(came, d); len(came) == n {
				continue outside
			}
		}
	}
	return came
}

func leaveByPanic(seq func(yield func(int) bool), n int) (came []int) {
	defer func() {
		if recover() != "left" {
			came = nil // the panic is the caller's own, and must come to him
		}
	}()
	for d := range seq {
		if came = append(came, d); len(came) == n {
			panic("left")
		}
	}
	return came
}

func leaveByGoexit(seq func(yield func(int) bool), n int) (came []int) {
	ended := make(chan bool)
	go func() {
		defer close(ended)
		for d := range seq {
			if came = append(came, d); len(came) == n {
				runtime.Goexit()
			}
		}
	}()
	<-ended
	return came
}

func leaveByStop(seq func(yield func(int) bool), n int) (came []int) {
	next, stop := iter.Pull(iter.Seq[int](seq))
	for range n {
		d, _ := next()
		came = append(came, d)
	}
	stop()
	if d, ok := next(); ok || d != 0 {
		return nil
	}
	return came
}

// P7, P6: left at each digit, in each way: no digit comes or is made behind it, and the graph goes on as ever.
func TestLeftAtEachDigit(t *testing.T) {
	for i, way := range leavings {
		for n := 1; n <= api.MaxDigits; n++ {
			g, r := pair(t, sprouts(uint64(i*api.MaxDigits+n), 3+n%5))
			h := len(r.nodes)
			want, _ := r.ask(h, n)
			if have := way.by(g.Digits(h), n); !slices.Equal(have, want) {
				t.Fatalf("P7: left by %s behind %d digits, %v came, want %v", way.name, n, have, want)
			}
			agreeMade(t, g, r, "Digits left by "+way.name, h, n)
			agree(t, g, r, h, n)
			agree(t, g, r, 1+n%h, 12)
			both(t, g, r, call{kind: 'n', op: api.Neg, a: h})
			agree(t, g, r, h+1, min(n+1, api.MaxDigits))
		}
	}
}

// P7, P6: what is not gone through makes nothing.
func TestNotGoneThrough(t *testing.T) {
	g := leaves(t, 2)
	g.Node(api.Mul, 1, 2)
	for range 3 {
		g.Digits(3)
		next, stop := iter.Pull(iter.Seq[int](g.Digits(3)))
		stop()
		next()
		g.Digits(3)(nil)
	}
	checkMade(t, g, 0, 0, 0)
	checkAsk(t, g, 1, 0, 1)
	g.Digits(1)(nil)
	checkMade(t, g, 2, 0, 0)
}

// P7, P9: gone through again, whole or left, it begins at the first digit, and makes none twice.
func TestGoneThroughAgain(t *testing.T) {
	for seed := range uint64(30) {
		g, r := pair(t, sprouts(seed, 4+int(seed%6)))
		h := len(r.nodes)
		seq := g.Digits(h)
		for _, n := range []int{3, 1, 7, 64, 64, 2, 63} {
			want, _ := r.ask(h, n)
			if have := leaveByBreak(seq, n); !slices.Equal(have, want) {
				t.Fatalf("P7: seed %d: gone through again, left behind %d digits: %v, want %v", seed, n, have, want)
			}
			agreeMade(t, g, r, "Digits gone through again", h, n)
		}
		want, _ := r.ask(h, api.MaxDigits)
		for range 2 {
			checkGone(t, "a node, again and to the end,", seq, want)
			checkGone(t, "a node, by another,", g.Digits(h), want)
		}
		agreeMade(t, g, r, "Digits gone through again", h, api.MaxDigits)
	}
}

// P7, P1: of no handle it goes through none, in every way, and makes nothing.
func TestGoingThroughNone(t *testing.T) {
	g := leaves(t, 3)
	checkAsk(t, g, 2, 0, 1)
	for _, h := range noNodes {
		seq := g.Digits(h)
		for range 2 {
			checkGone(t, "no handle", seq, nil)
		}
		seq(nil)
	}
	checkMade(t, g, 0, 2, 0)
	checkLen(t, g, 3)
	empty := brook.New()
	for _, x := range edges {
		checkGone(t, "a graph without nodes", empty.Digits(int(x)), nil)
	}
}

// P7: the handle is looked at when it is gone through, each time.
func TestHandleComesLater(t *testing.T) {
	g := brook.New()
	first, second, third := g.Digits(1), g.Digits(2), g.Digits(3)
	checkGone(t, "a handle to come", first, nil)
	next, stop := iter.Pull(iter.Seq[int](second))
	defer stop()
	g.Leaf(1, 3)
	checkGone(t, "a handle that has come", first, repeat(api.MaxDigits, nil, 0, 1))
	checkGone(t, "a handle to come", second, nil)
	checkLen(t, g, 1)
	g.Node(api.Neg, 1, 0)
	if d, ok := next(); d != 0 || !ok {
		t.Errorf("P7: a pull that was made ahead of the node has %d, %v", d, ok)
	}
	checkMade(t, g, api.MaxDigits, 1)
	checkGone(t, "a handle that has come", second, repeat(api.MaxDigits, nil, 0, -1))
	checkGone(t, "a handle to come", third, nil)
	check(t, "a Node that is refused", got(g.Node(api.Neg, 9, 0)), 0, api.ErrHandle)
	checkGone(t, "a handle to come", third, nil)
	checkGone(t, "1/3", first, repeat(api.MaxDigits, nil, 0, 1))
}

// P7: the handle is looked at when the going begins: a going through none has ended, also if the node comes then.
func TestHandleComesBehindTheGoing(t *testing.T) {
	g := leaves(t, 1)
	next, stop := iter.Pull(iter.Seq[int](g.Digits(2)))
	defer stop()
	if d, ok := next(); d != 0 || ok {
		t.Errorf("P7: a pull of no handle has %d, %v", d, ok)
	}
	g.Leaf(1, 3)
	if d, ok := next(); d != 0 || ok {
		t.Errorf("P7: a going that had ended has %d, %v", d, ok)
	}
	checkMade(t, g, 0, 0)
}

// P7, P8: a graph that is closed ahead of the going, also if it was not when Digits was called.
func TestClosedAhead(t *testing.T) {
	g := leaves(t, 2)
	checkAsk(t, g, 2, 0, 1, 0)
	ahead := []func(yield func(int) bool){g.Digits(1), g.Digits(2), g.Digits(3), g.Digits(0)}
	next, stop := iter.Pull(iter.Seq[int](g.Digits(2)))
	defer stop()
	g.Close()
	for h := -1; h <= 3; h++ {
		ahead = append(ahead, g.Digits(h))
	}
	for _, seq := range ahead {
		for range 2 {
			checkGone(t, "a closed graph", seq, nil)
		}
	}
	if d, ok := next(); d != 0 || ok {
		t.Errorf("P7: a pull of a closed graph has %d, %v", d, ok)
	}
	empty := brook.New()
	empty.Close()
	checkGone(t, "a closed graph without nodes", empty.Digits(1), nil)
}

// P7, P8: closed in between, behind each digit, be the next one made already or not.
func TestClosedInBetween(t *testing.T) {
	for there := range 3 {
		for n := 1; n <= api.MaxDigits; n++ {
			g, r := pair(t, sprouts(uint64(n), 4))
			want, _ := r.ask(4, n)
			g.Ask(4, there*api.MaxDigits/2)
			seq := g.Digits(4)
			var have []int
			for d := range seq {
				if have = append(have, d); len(have) == n {
					g.Close()
					check(t, "P8: Made in a closed graph", got(g.Made(4)), 0, api.ErrClosed)
				}
			}
			if !slices.Equal(have, want) {
				t.Fatalf("P7: closed behind %d digits, goes through %v, want %v", n, have, want)
			}
			checkGone(t, "a graph that was closed in between", seq, nil)
			checkGone(t, "a graph that was closed in between", g.Digits(4), nil)
			checkLen(t, g, 4)
		}
	}
}

// P7, P8: closed ahead of a second going.
func TestClosedAheadOfTheSecond(t *testing.T) {
	g := leaves(t, 2)
	h, _ := g.Node(api.Avg, 1, 2)
	seq := g.Digits(h)
	if n := len(gone(seq)); n != api.MaxDigits {
		t.Errorf("P7: goes through %d digits", n)
	}
	g.Close()
	checkGone(t, "a graph that is closed now", seq, nil)
	other := leaves(t, 2)
	checkGone(t, "another graph", other.Digits(1), repeat(api.MaxDigits, []int{0}, 1))
}

// P9: a number is no further than 2^-n from the sum of the n digits that have come, at each turn.
func TestNearEnoughAtEachTurn(t *testing.T) {
	for seed := range uint64(40) {
		calls := sprouts(seed, 3+int(seed%8))
		g, m := grown(calls), &model{}
		for _, c := range calls {
			m.do(c)
		}
		for i, x := range m.numbers() {
			var came []int
			for d := range g.Digits(i + 1) {
				came = append(came, d)
				total, unit := sum(came)
				if off := new(big.Rat).Sub(x, total); off.Abs(off).Cmp(unit) > 0 {
					t.Fatalf("P9: seed %d: the digits %v of %v are %v off", seed, came, x, off)
				}
			}
			if len(came) != api.MaxDigits {
				t.Fatalf("P7: goes through %d digits", len(came))
			}
		}
	}
}

// P9: NEG, gone through in turn with its node, has the other signs.
func TestNegInTurn(t *testing.T) {
	for seed := range uint64(30) {
		g := grown(sprouts(seed, 8))
		for h := 1; h <= 8; h++ {
			neg, _ := g.Node(api.Neg, h, 0)
			next, stop := iter.Pull(iter.Seq[int](g.Digits(neg)))
			i := 0
			for d := range g.Digits(h) {
				if m, ok := next(); !ok || m != -d {
					t.Fatalf("P9: seed %d: digit %d of node %d is %d, of its NEG %d, %v", seed, i, h, d, m, ok)
				}
				i++
			}
			if d, ok := next(); ok || i != api.MaxDigits {
				t.Fatalf("P7: behind %d digits of the node its NEG has %d", i, d)
			}
			stop()
		}
	}
}
