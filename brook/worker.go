package brook

// wish asks for the digit at place i, the first one at 0; it is sent back on to.
type wish struct {
	i  int
	to chan<- int
}

// worker makes the digits of one node, in a goroutine of its own, while a crew
// is at work.
type worker struct {
	node     *node
	a, b     *worker // nil where the op has none
	asked    chan wish
	told     chan int // on which its parts send their digits back
	made     *tally
	ofA, ofB *tally // of the digits taken
}

func newWorker(n *node, a *worker, b *worker) *worker {
	return &worker{
		node:  n,
		a:     a,
		b:     b,
		asked: make(chan wish),
		told:  make(chan int),
		made:  tallyOf(n.digits),
		ofA:   takenOf(a, n.taken),
		ofB:   takenOf(b, n.taken),
	}
}

// takenOf is the tally of a part's first n digits; it is empty where there is no
// part.
func takenOf(part *worker, n int) *tally {
	if part == nil {
		return tallyOf(nil)
	}
	return tallyOf(part.node.digits[:n])
}

func (w *worker) work() {
	for asked := range w.asked {
		for len(w.node.digits) <= asked.i {
			w.makeDigit()
		}
		asked.to <- w.node.digits[asked.i]
	}
}

func (w *worker) makeDigit() {
	d, sure := w.next()
	for !sure {
		w.takeMore()
		d, sure = w.next()
	}
	w.node.digits = append(w.node.digits, d)
	w.made.put(d)
}

func (w *worker) next() (int, bool) {
	return knownOf(w.node.of, w.ofA, w.ofB).next(w.made)
}

// takeMore waits for the digit of a ahead of asking b: so one worker at most is
// making a digit at any time, and no answer hangs on which goroutine runs first.
func (w *worker) takeMore() {
	w.ofA.put(w.a.tell(w.node.taken, w.told))
	if w.b != nil {
		w.ofB.put(w.b.tell(w.node.taken, w.told))
	}
	w.node.taken++
}

// tell asks for the digit at place i and waits for it; told is the asker's own.
func (w *worker) tell(i int, told chan int) int {
	w.asked <- wish{i, told}
	return <-told
}
