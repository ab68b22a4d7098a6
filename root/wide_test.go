package root

import (
	"math"
	"math/big"
	"testing"
)

// value is x as a number without bounds.
func (x wide) value() *big.Int {
	v := new(big.Int).Lsh(new(big.Int).SetUint64(x.high), 64)
	return v.Or(v, new(big.Int).SetUint64(x.low))
}

func wides() []wide {
	var l []wide
	edges := []uint64{0, 1, 2, 3, 0xf0e1d2c3b4a59687, math.MaxUint32, 1 << 32, 1<<63 - 1, 1 << 63, math.MaxUint64 - 1, math.MaxUint64}
	for _, high := range edges {
		for _, low := range edges {
			l = append(l, wide{high, low})
		}
	}
	return l
}

// lowest is the lowest 128 bits of a number.
func lowest(v *big.Int) *big.Int {
	m := new(big.Int).Lsh(big.NewInt(1), 128)
	return v.Mod(v, m)
}

func TestWideComparedAndTakenAway(t *testing.T) {
	for _, x := range wides() {
		for _, y := range wides() {
			order := x.value().Cmp(y.value())
			if x.atMost(y) != (order <= 0) {
				t.Errorf("%x at most %x: %v", x, y, x.atMost(y))
			}
			if order < 0 {
				continue
			}
			if want := new(big.Int).Sub(x.value(), y.value()); x.less(y).value().Cmp(want) != 0 {
				t.Errorf("%x less %x: %x, not %x", x, y, x.less(y), want)
			}
		}
	}
}

func TestWideTimesAndBehind(t *testing.T) {
	for _, x := range wides() {
		for _, y := range wides() {
			want := lowest(new(big.Int).Mul(x.value(), new(big.Int).SetUint64(y.low)))
			if x.times(y.low).value().Cmp(want) != 0 {
				t.Errorf("%x times %x: %x, not %x", x, y.low, x.times(y.low), want)
			}
		}
		for n := range 64 {
			more := uint64(1)<<n - 1
			want := lowest(new(big.Int).Lsh(x.value(), uint(n)))
			want.Or(want, new(big.Int).SetUint64(more))
			if x.behind(n, more).value().Cmp(want) != 0 {
				t.Errorf("%d bits behind %x: %x, not %x", n, x, x.behind(n, more), want)
			}
		}
	}
}
