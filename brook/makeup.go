package brook

import "brook/api"

// makeup is what a node is made of: its op, a, b, and the three numbers of its
// ratio, with 0 for what the op has not. Each node has but one makeup, so that
// two nodes are the same just where these arrays are.
type makeup [6]uint64

func madeOf(op int, a int, b int, r ratio) makeup {
	return makeup{uint64(op), uint64(a), uint64(b), r[0], r[1], r[2]}
}

// takesOne and takesTwo speak of the ops that Node makes; LEAF and SCALE have
// calls of their own.
func takesOne(op int) bool {
	return op == api.Neg || op == api.Abs
}

func takesTwo(op int) bool {
	switch op {
	case api.Avg, api.Mul, api.Min, api.Max:
		return true
	}
	return false
}
