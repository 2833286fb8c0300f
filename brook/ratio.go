package brook

// ratio is p / q in lowest terms: 1 if it is below 0 (else 0), then p and q
// without their signs. The sign stands apart because q may be -2^63, which has
// no int64 beside it that is the same without the sign.
type ratio [3]uint64

// lowestTerms tells p / q, and whether it is a number from -1 to 1.
func lowestTerms(p int64, q int64) (ratio, bool) {
	over, under := unsigned(p), unsigned(q)
	if under == 0 || over > under {
		return ratio{}, false
	}
	var below uint64
	if p != 0 && (p < 0) != (q < 0) { // 0 has no sign, whatever q's is
		below = 1
	}
	d := commonDivisor(under, over)
	return ratio{below, over / d, under / d}, true
}

// unsigned is n without its sign; turned round only as a uint64, where -2^63
// has room.
func unsigned(n int64) uint64 {
	if n < 0 {
		return -uint64(n)
	}
	return uint64(n)
}

func commonDivisor(m uint64, n uint64) uint64 {
	for n != 0 {
		m, n = n, m%n
	}
	return m
}
