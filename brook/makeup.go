package brook

import (
	"math/big"

	"brook/api"
)

// makeup is what a node is made of: its op, a, b, and the three numbers of its
// ratio, with 0 for what the op has not. Each node has but one makeup, so that
// two nodes are the same just where these arrays are.
type makeup [6]uint64

func madeOf(op int, a int, b int, r ratio) makeup {
	return makeup{uint64(op), uint64(a), uint64(b), r[0], r[1], r[2]}
}

// takesOne and takesTwo speak of the ops that Node makes; LEAF and SCALE have
// calls of their own.
func takesOne(op int) bool {
	return op == api.Neg || op == api.Abs
}

func takesTwo(op int) bool {
	switch op {
	case api.Avg, api.Mul, api.Min, api.Max:
		return true
	}
	return false
}

func (m makeup) op() int { return int(m[0]) }

// a and b are 0, which is no handle, where the op has no such part.
func (m makeup) a() int { return int(m[1]) }

func (m makeup) b() int { return int(m[2]) }

// over and under are p and q, the sign with p.
func (m makeup) over() *big.Int {
	p := new(big.Int).SetUint64(m[4])
	if m[3] == 1 {
		p.Neg(p)
	}
	return p
}

func (m makeup) under() *big.Int { return new(big.Int).SetUint64(m[5]) }
