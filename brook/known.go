package brook

import (
	"math/big"

	"brook/api"
)

// known is what a node knows itself to be: a span, in units of 1 / under.
type known struct {
	span
	under *big.Int
}

// knownOf says what a node knows by the digits of a and of b that it has taken.
// Both have given equally many, so their units are the same. Of a part that the
// op has not, the tally is empty and not looked at.
func knownOf(m makeup, a *tally, b *tally) known {
	x, y := a.around(), b.around()
	switch m.op() {
	case api.Leaf:
		return known{span{m.over(), m.over()}, m.under()}
	case api.Neg:
		return known{x.neg(), power(a.n)}
	case api.Avg:
		return known{x.plus(y), power(a.n + 1)}
	case api.Mul:
		return known{x.times(y), power(a.n + b.n)}
	case api.Scale:
		return known{x.timesOne(m.over()), new(big.Int).Lsh(m.under(), a.n)}
	case api.Min:
		return known{x.min(y), power(a.n)}
	case api.Max:
		return known{x.max(y), power(a.n)}
	}
	return known{x.abs(), power(a.n)}
}

// power is 2^n.
func power(n uint) *big.Int { return new(big.Int).Lsh(big.NewInt(1), n) }

// next is the digit behind those that are made, and whether it is sure yet.
func (k known) next(made *tally) (int, bool) {
	lo, hi := k.left(k.lo, made), k.left(k.hi, made)
	switch {
	case lo.Cmp(new(big.Int).Neg(k.under)) >= 0 && hi.Cmp(k.under) <= 0:
		return 0, true
	case lo.Sign() >= 0:
		return 1, true
	case hi.Sign() <= 0:
		return -1, true
	}
	return 0, false
}

// left is what is left of a bound behind the digits made, times 2^n: in halves
// of a unit, so that 1/2 is under itself.
func (k known) left(bound *big.Int, made *tally) *big.Int {
	all := new(big.Int).Lsh(bound, made.n)
	rest := all.Sub(all, new(big.Int).Mul(made.units, k.under))
	return rest.Lsh(rest, 1)
}
