package root

import "math/bits"

// wide is a number of 128 bits without a sign, as a cube, or a root with what is left, is too great for a word.
type wide struct{ high, low uint64 }

// atMost tells whether x is not above y.
func (x wide) atMost(y wide) bool {
	return x.high < y.high || x.high == y.high && x.low <= y.low
}

// less is x with y, which is not above it, taken away.
func (x wide) less(y wide) wide {
	low, borrow := bits.Sub64(x.low, y.low, 0)
	high, _ := bits.Sub64(x.high, y.high, borrow)
	return wide{high, low}
}

// times is the product of x and n, of which the callers' bounds leave nothing above 128 bits.
func (x wide) times(n uint64) wide {
	high, low := bits.Mul64(x.low, n)
	return wide{high + x.high*n, low}
}

// behind is x with n more bits, from 0 to 63 of them, behind it.
func (x wide) behind(n int, more uint64) wide {
	return wide{x.high<<n | x.low>>(64-n), x.low<<n | more}
}
