package brook

import "math/big"

// span is the numbers from lo to hi, both of them too, in units that whoever
// holds it knows. A span is never changed, so two may share their bounds.
type span struct {
	lo, hi *big.Int
}

func (s span) neg() span {
	return span{new(big.Int).Neg(s.hi), new(big.Int).Neg(s.lo)}
}

func (s span) plus(t span) span {
	return span{new(big.Int).Add(s.lo, t.lo), new(big.Int).Add(s.hi, t.hi)}
}

// times looks at the products of the bounds alone: between them a product only
// rises or only falls.
func (s span) times(t span) span {
	return s.timesOne(t.lo).join(s.timesOne(t.hi))
}

func (s span) timesOne(n *big.Int) span {
	lo, hi := new(big.Int).Mul(s.lo, n), new(big.Int).Mul(s.hi, n)
	return span{lesser(lo, hi), greater(lo, hi)}
}

// join is the least span that holds both.
func (s span) join(t span) span {
	return span{lesser(s.lo, t.lo), greater(s.hi, t.hi)}
}

func (s span) min(t span) span {
	return span{lesser(s.lo, t.lo), lesser(s.hi, t.hi)}
}

func (s span) max(t span) span {
	return span{greater(s.lo, t.lo), greater(s.hi, t.hi)}
}

func (s span) abs() span {
	up := s.max(s.neg())
	return span{greater(up.lo, new(big.Int)), up.hi}
}

func lesser(m *big.Int, n *big.Int) *big.Int {
	if m.Cmp(n) <= 0 {
		return m
	}
	return n
}

func greater(m *big.Int, n *big.Int) *big.Int {
	if m.Cmp(n) >= 0 {
		return m
	}
	return n
}
