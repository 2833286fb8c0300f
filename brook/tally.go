package brook

import "math/big"

// tally is the sum of n digits, counted in units of 2^-n so that it is whole.
type tally struct {
	n     uint
	units *big.Int
}

func tallyOf(digits []int) *tally {
	t := &tally{units: new(big.Int)}
	for _, d := range digits {
		t.put(d)
	}
	return t
}

// put adds the next digit; with it the units are half as great as before.
func (t *tally) put(d int) {
	t.n++
	t.units.Lsh(t.units, 1)
	t.units.Add(t.units, big.NewInt(int64(d)))
}

// around is the interval that the digits stand for, in the same units.
func (t *tally) around() span {
	one := big.NewInt(1)
	return span{new(big.Int).Sub(t.units, one), new(big.Int).Add(t.units, one)}
}
