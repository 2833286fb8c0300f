package brook_test

import (
	"iter"
	"math/rand/v2"
	"runtime"
	"slices"
	"strings"
	"testing"

	"brook/api"
	"brook/brook"
)

// P7, P3, P4: nodes are made while a going stands: above it, beside it, and refused ones.
func TestNodesMeanwhile(t *testing.T) {
	g := leaves(t, 1)
	h, _ := g.Node(api.Neg, 1, 0)
	want, i := repeat(api.MaxDigits, []int{0}, -1), 0
	for d := range g.Digits(h) {
		if d != want[i] {
			t.Fatalf("P7: digit %d is %d, want %d", i, d, want[i])
		}
		there := min(2+3*i, api.MaxNodes)
		checkLen(t, g, there)
		for k, c := range []call{{kind: 'l', p: 1, q: int64(i + 3)}, {kind: 's', a: h, p: 1, q: int64(i + 3)}, {kind: 'n', op: api.Mul, a: g.Len(), b: h}} {
			if there+k < api.MaxNodes {
				check(t, "a new node", do(g, c), there+k+1, api.OK)
			} else {
				check(t, "a new node of a full graph", do(g, c), 0, api.ErrFull)
			}
		}
		check(t, "a Leaf that is there", got(g.Leaf(-1, -2)), 1, api.OK)
		check(t, "a Node that is there", got(g.Node(api.Neg, 1, 7)), h, api.OK)
		check(t, "a Node of none", got(g.Node(api.Neg, 0, 0)), 0, api.ErrHandle)
		check(t, "a Scale beyond 1", got(g.Scale(1, 2, 1)), 0, api.ErrRange)
		i++
		checkMade(t, g, i, i, 0, 0, 0)
	}
	if i != api.MaxDigits {
		t.Errorf("P7: goes through %d digits", i)
	}
}

// P7, P5, P6: while a going stands, Asks for fewer digits than have come, for
// more, and refused ones, of the node, of one above and of one beneath: it goes
// on at its own place.
func TestAsksMeanwhile(t *testing.T) {
	for seed := range uint64(12) {
		for _, off := range []int{-64, -2, -1, 0, 1, 2, 5, 64} {
			g, r := pair(t, sprouts(seed, 7))
			h, i := 4+int(seed%2), 0
			above := both(t, g, r, call{kind: 'n', op: twoParts[seed%4], a: h, b: 1})
			for d := range g.Digits(h) {
				if want, ok := r.turn(h, i); !ok || d != want {
					t.Fatalf("P7: digit %d is %d, want %d, %v", i, d, want, ok)
				}
				i++
				n := max(0, min(i+off, api.MaxDigits))
				agree(t, g, r, []int{h, above, 1 + i%(h-1)}[i%3], n)
				agree(t, g, r, h, api.MaxDigits+1)
				agree(t, g, r, 0, n)
			}
			if i != api.MaxDigits {
				t.Fatalf("P7: goes through %d digits, with Asks for %d off", i, off)
			}
		}
	}
}

// P7: two goings in turn, of one node or of two, the one as far as it will ahead of the other: neither minds the other.
func TestTwoInTurn(t *testing.T) {
	for seed := range uint64(40) {
		rnd := rand.New(rand.NewPCG(seed, 5))
		g, r := pair(t, sprouts(seed, 6))
		same := g.Digits(6)
		var next [4]func() (int, bool)
		var stop [4]func()
		var place [4]int
		node := [4]int{6, 6, 1 + rnd.IntN(6), 1 + rnd.IntN(6)}
		for k, seq := range []iter.Seq[int]{same, same, g.Digits(node[2]), g.Digits(node[3])} {
			next[k], stop[k] = iter.Pull(seq)
		}
		for range 150 {
			k := rnd.IntN(4)
			d, ok := next[k]()
			if want, more := r.turn(node[k], place[k]); ok != more || d != want {
				t.Fatalf("P7: seed %d: digit %d of node %d is %d, %v, want %d, %v", seed, place[k], node[k], d, ok, want, more)
			}
			place[k]++
			agreeMade(t, g, r, "goings in turn", node[k], place[k])
		}
		stop[0]()
		g.Close()
		for k := range next {
			if d, ok := next[k](); ok || d != 0 {
				t.Fatalf("P7: seed %d: a going has %d behind Close, %v", seed, d, ok)
			}
			stop[k]()
		}
	}
}

// P7: goings within one another through one node, three deep, each whole at each turn of the one around it.
func TestWithinOneAnother(t *testing.T) {
	g := leaves(t, 3)
	g.Node(api.Avg, 1, 3)
	h, _ := g.Node(api.Mul, 4, 2)
	want, _ := grown([]call{{kind: 'l', p: 1, q: 2}, {kind: 'l', p: 1, q: 3}, {kind: 'l', p: 1, q: 4},
		{kind: 'n', op: api.Avg, a: 1, b: 3}, {kind: 'n', op: api.Mul, a: 4, b: 2}}).Ask(h, api.MaxDigits)
	seq := g.Digits(h)
	var outer, inner []int
	for d := range seq {
		outer = append(outer, d)
		inner = nil
		for d := range seq {
			inner = append(inner, d)
			if have := leaveByBreak(seq, len(inner)); !slices.Equal(have, want[:len(inner)]) {
				t.Fatalf("P7: the innermost goes through %v, want the beginning of %v", have, want)
			}
			if len(inner) == len(outer) {
				break
			}
		}
		if !slices.Equal(inner, want[:len(outer)]) {
			t.Fatalf("P7: the inner one goes through %v, want the beginning of %v", inner, want)
		}
		check(t, "P6: Made", got(g.Made(h)), len(outer), api.OK)
	}
	if !slices.Equal(outer, want) {
		t.Errorf("P7: the outer one goes through %v, want %v", outer, want)
	}
}

// P7, P8: closed in the innermost, all goings around it end.
func TestClosedWithin(t *testing.T) {
	g := leaves(t, 2)
	var turns [3]int
	for range g.Digits(1) {
		turns[0]++
		for range g.Digits(1) {
			turns[1]++
			for range g.Digits(2) {
				if turns[2]++; turns[0] == 2 && turns[1] == 67 {
					g.Close()
				}
			}
		}
	}
	if turns != [3]int{2, 64 + 3, 66*64 + 1} {
		t.Errorf("P7: closed within, the goings have had %v turns", turns)
	}
}

// walk is goings with calls made in them, held against the reckoner.
type walk struct {
	t   *testing.T
	rnd *rand.Rand
	g   *brook.Graph
	r   *reckoner
	met map[string]int
}

// along goes through a node, to the end or left somewhere, and makes some call at most turns.
func (w *walk) along(h, depth int) {
	leave, i := 1+w.rnd.IntN(20), 0
	if w.rnd.IntN(4) == 0 {
		leave = api.MaxDigits + 1
	}
	for d := range w.g.Digits(h) {
		if want, ok := w.r.turn(h, i); !ok || d != want {
			w.t.Fatalf("P7: digit %d of node %d is %d, want %d, %v; nodes %v", i, h, d, want, ok, w.r.nodes)
		}
		i++
		agreeMade(w.t, w.g, w.r, "Digits", h, i)
		if i == leave {
			w.met["left"]++
			return
		}
		w.act(h, i, depth)
	}
	if want, ok := w.r.turn(h, i); ok {
		w.t.Fatalf("P7: Digits(%d) ends behind %d digits, the next is %d; nodes %v", h, i, want, w.r.nodes)
	}
	switch {
	case i == api.MaxDigits:
		w.met["gone to the end"]++
	case i > 0:
		w.met["closed in between"]++
	case w.r.closed:
		w.met["closed ahead"]++
	default:
		w.met["no handle"]++
	}
}

// act makes one call, while the node h is gone through and i digits have come.
func (w *walk) act(h, i, depth int) {
	some := w.rnd.IntN(len(w.r.nodes)+3) - 1
	switch w.rnd.IntN(10) {
	case 0:
		both(w.t, w.g, w.r, sprout(w.rnd, len(w.r.nodes)))
	case 1:
		agree(w.t, w.g, w.r, h, w.rnd.IntN(i+1))
	case 2:
		agree(w.t, w.g, w.r, h, min(i+w.rnd.IntN(9), api.MaxDigits))
	case 3:
		agree(w.t, w.g, w.r, some, w.rnd.IntN(24)-2)
	case 4, 5:
		if depth < 3 {
			w.along([]int{h, some}[w.rnd.IntN(2)], depth+1)
		}
	case 6:
		if w.rnd.IntN(40) == 0 {
			both(w.t, w.g, w.r, call{kind: 'c'})
		}
	}
	if n := w.g.Len(); n != len(w.r.nodes) {
		w.t.Fatalf("P4: Len() = %d, want %d", n, len(w.r.nodes))
	}
}

// P1, P2, P6, P7, P8, P9: goings within one another with all calls made in them, by chance, against the reckoner.
func TestWalks(t *testing.T) {
	met := map[string]int{}
	for seed := range uint64(150) {
		w := &walk{t, rand.New(rand.NewPCG(seed, 6)), brook.New(), &reckoner{}, met}
		for _, c := range sprouts(seed, 2+int(seed%6)) {
			both(t, w.g, w.r, c)
		}
		for range 4 {
			w.along(w.rnd.IntN(len(w.r.nodes)+2), 1)
		}
	}
	for _, end := range []string{"left", "gone to the end", "closed in between", "closed ahead", "no handle"} {
		if met[end] < 10 {
			t.Errorf("of the goings only %d were %s", met[end], end)
		}
	}
}

// P2: however goroutines run, and while other graphs are gone through, a going has the same digits.
func TestGoingsBesideOthers(t *testing.T) {
	const graphs = 12
	var want, have [graphs][][]int
	through := func(i int) (out [][]int) {
		g := grown(sprouts(uint64(i), 9))
		for h := 9; h >= 1; h-- {
			out = append(out, leaveByBreak(g.Digits(h), 30), gone(g.Digits(h)))
		}
		return append(out, tale(t, g)...)
	}
	for i := range want {
		want[i] = through(i)
	}
	for _, threads := range []int{1, 2, 8} {
		old := runtime.GOMAXPROCS(threads)
		ended := make(chan bool)
		for i := range have {
			go func() {
				have[i] = through(i)
				ended <- true
			}()
		}
		for range have {
			<-ended
		}
		runtime.GOMAXPROCS(old)
		for i := range have {
			if !sameTale(have[i], want[i]) {
				t.Errorf("P2: graph %d goes through %v beside others, %v alone", i, have[i], want[i])
			}
		}
	}
}

// atWork counts the goroutines that stand in the program's code and are its own:
// not those of the tests, nor those of goings that are pulled.
func atWork() int {
	room := make([]byte, 1<<20)
	all := strings.Split(string(room[:runtime.Stack(room, true)]), "\n\n")
	n := 0
	for _, stack := range all {
		theirs := strings.Contains(stack, "brook/brook_test.") || strings.Contains(stack, "created by iter.Pull")
		if strings.Contains(stack, "brook/brook.") && !theirs {
			n++
		}
	}
	return n
}

func checkEnded(t *testing.T, when string) {
	t.Helper()
	if n := atWork(); n > 0 {
		t.Fatalf("P8: %d goroutines are at work %s", n, when)
	}
}

// P8: no goroutine is left when a going has ended, or is left, in whichever way, at whichever digit.
func TestEndedWhenLeft(t *testing.T) {
	for _, way := range leavings {
		for n := 1; n <= 20; n++ {
			g := grown(sprouts(uint64(n), 8))
			way.by(g.Digits(8), n)
			checkEnded(t, "behind a going left by "+way.name)
		}
	}
	g := grown(sprouts(3, 8))
	gone(g.Digits(8))
	checkEnded(t, "behind a going to the end")
	gone(g.Digits(9))
	checkEnded(t, "behind a going through none")
	for range g.Digits(7) {
		g.Close()
	}
	checkEnded(t, "behind a going closed in between")
}

// P8: no goroutine is left when a call answers that is made while goings stand; nor by a pull that is never stopped.
func TestEndedMeanwhile(t *testing.T) {
	for seed := range uint64(20) {
		g := grown(sprouts(seed, 8))
		next, stop := iter.Pull(iter.Seq[int](g.Digits(8)))
		for range 3 {
			next()
			checkEnded(t, "behind a pull")
		}
		turns := 0
		for range g.Digits(7) {
			checkEnded(t, "at a turn")
			g.Len()
			checkEnded(t, "behind Len")
			g.Ask(8, 5+turns)
			checkEnded(t, "behind Ask")
			g.Node(api.Neg, 8, 0)
			checkEnded(t, "behind Node")
			gone(g.Digits(6))
			checkEnded(t, "behind a going to the end within")
			if turns++; turns == 5 {
				g.Close()
				checkEnded(t, "behind Close")
			}
		}
		stop()
		checkEnded(t, "behind all")
	}
}
