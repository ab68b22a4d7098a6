package root_test

import (
	"math"
	"math/big"
	"slices"
	"testing"

	"pestle/api"
	"pestle/root"
)

const mostRooted = 1 << 20

// sieve is all primes below n, by crossing out multiples.
func sieve(n int) []int {
	crossed := make([]bool, n)
	var l []int
	for x := 2; x < n; x++ {
		if crossed[x] {
			continue
		}
		l = append(l, x)
		for y := x + x; y < n; y += x {
			crossed[y] = true
		}
	}
	return l
}

// whole is the greatest number whose power of that degree is not above n.
func whole(n, degree int) int {
	x := 0
	for power(x+1, degree) <= n {
		x++
	}
	return x
}

func power(x, degree int) int {
	p := 1
	for range degree {
		p *= x
	}
	return p
}

// isRoot tells whether whole, and bits behind its point, are n's root of that degree, rounded down: by numbers without bounds.
func isRoot(n, degree, whole, bits int, behind uint64) bool {
	scaled := new(big.Int).Lsh(big.NewInt(int64(n)), uint(degree*bits))
	r := new(big.Int).Lsh(big.NewInt(int64(whole)), uint(bits))
	r.Add(r, new(big.Int).SetUint64(behind))
	d := big.NewInt(int64(degree))
	if new(big.Int).Exp(r, d, nil).Cmp(scaled) > 0 {
		return false
	}
	r.Add(r, big.NewInt(1))
	return new(big.Int).Exp(r, d, nil).Cmp(scaled) > 0
}

// checked are the numbers that roots are held against bounds of: all small ones, those about powers, many others, and the last ones.
func checked() []int {
	var l []int
	for n := range 3000 {
		l = append(l, n)
	}
	for n := 3000; n <= mostRooted; n += 61 {
		l = append(l, n)
	}
	for x := 1; x <= 1024; x++ {
		l = append(l, x*x-1, x*x)
		if x*x < mostRooted {
			l = append(l, x*x+1)
		}
	}
	for x := 1; x <= 101; x++ {
		l = append(l, x*x*x-1, x*x*x, x*x*x+1)
	}
	for n := mostRooted - 500; n <= mostRooted; n++ {
		l = append(l, n)
	}
	return l
}

// refused are numbers of which there are no roots here.
func refused() []int {
	return []int{math.MinInt, math.MinInt + 1, -1 << 32, -mostRooted, -9, -8, -4, -2, -1,
		mostRooted + 1, mostRooted + 2, 1 << 21, 1 << 22, 1 << 24, 1 << 31, 1 << 32, 1<<32 + 2, api.Most, math.MaxInt - 1, math.MaxInt}
}

// P3.1

func TestPrimes(t *testing.T) {
	for _, c := range [][]int{
		{}, {2}, {2, 3}, {2, 3, 5}, {2, 3, 5, 7},
		{2, 3, 5, 7, 11, 13, 17, 19},
		{2, 3, 5, 7, 11, 13, 17, 19, 23, 29, 31, 37, 41, 43, 47, 53, 59, 61, 67, 71, 73, 79, 83, 89, 97},
	} {
		if l, e := root.Primes(len(c)); !slices.Equal(l, c) || e != api.OK {
			t.Errorf("%d: %d %d, not %d", len(c), l, e, c)
		}
	}
}

func TestAllPrimes(t *testing.T) {
	want := sieve(7920)
	if len(want) != 1000 || want[999] != 7919 {
		t.Fatal(len(want))
	}
	for n := range 1001 {
		if l, e := root.Primes(n); !slices.Equal(l, want[:n]) || e != api.OK {
			t.Fatalf("%d: %d %d", n, l, e)
		}
	}
}

func TestPrimesRefused(t *testing.T) {
	for _, n := range []int{math.MinInt, -1000, -2, -1, 1001, 1002, 2000, mostRooted, 1 << 32, api.Most, math.MaxInt} {
		if l, e := root.Primes(n); len(l) != 0 || e != api.ErrArg {
			t.Errorf("%d: %d primes, %d", n, len(l), e)
		}
	}
}

// TestPrimesAreNew: what is done to an answer is not seen in another one (R2).
func TestPrimesAreNew(t *testing.T) {
	l, _ := root.Primes(10)
	for i := range l {
		l[i] = 4
	}
	_ = append(l, 6)
	if m, e := root.Primes(11); !slices.Equal(m, sieve(32)) || e != api.OK {
		t.Error(m, e)
	}
	for _, x := range l {
		if x != 4 {
			t.Error("changed by a later call:", l)
		}
	}
}

// P3.2

func TestSquare(t *testing.T) {
	for _, c := range []struct {
		n    int
		want uint64
	}{
		{0, 0}, {1, 0},
		{2, 0x6a09e667f3bcc908}, // these eight begin SHA-512, and BLAKE2b
		{3, 0xbb67ae8584caa73b},
		{5, 0x3c6ef372fe94f82b},
		{7, 0xa54ff53a5f1d36f1},
		{11, 0x510e527fade682d1},
		{13, 0x9b05688c2b3e6c1f},
		{17, 0x1f83d9abfb41bd6b},
		{19, 0x5be0cd19137e2179},
		{23, 0xcbbb9d5dc1059ed8}, // these eight begin SHA-384
		{29, 0x629a292a367cd507},
		{31, 0x9159015a3070dd17},
		{37, 0x152fecd8f70e5939},
		{41, 0x67332667ffc00b31},
		{43, 0x8eb44a8768581511},
		{47, 0xdb0c2e0d64f98fa7},
		{53, 0x47b5481dbefa4fa4},
	} {
		if x, e := root.Square(c.n); x != c.want || e != api.OK {
			t.Errorf("%d: %x %d, not %x", c.n, x, e, c.want)
		}
	}
}

func TestSquareIsRoundedDown(t *testing.T) {
	for _, n := range checked() {
		x, e := root.Square(n)
		if e != api.OK || !isRoot(n, 2, whole(n, 2), 64, x) {
			t.Fatalf("%d: %x %d", n, x, e)
		}
	}
}

func TestSquareRefused(t *testing.T) {
	for _, n := range refused() {
		if x, e := root.Square(n); x != 0 || e != api.ErrArg {
			t.Errorf("%d: %x %d", n, x, e)
		}
	}
}

// P3.3

func TestCube(t *testing.T) {
	for _, c := range []struct {
		n    int
		want uint32
	}{
		{0, 0}, {1, 0},
		{2, 0x428a2f98}, // these are the first and the last constants of SHA-256
		{3, 0x71374491},
		{5, 0xb5c0fbcf},
		{7, 0xe9b5dba5},
		{11, 0x3956c25b},
		{13, 0x59f111f1},
		{17, 0x923f82a4},
		{19, 0xab1c5ed5},
		{281, 0x8cc70208},
		{283, 0x90befffa},
		{293, 0xa4506ceb},
		{307, 0xbef9a3f7},
		{311, 0xc67178f2},
	} {
		if x, e := root.Cube(c.n); x != c.want || e != api.OK {
			t.Errorf("%d: %x %d, not %x", c.n, x, e, c.want)
		}
	}
}

func TestCubeIsRoundedDown(t *testing.T) {
	for _, n := range checked() {
		x, e := root.Cube(n)
		if e != api.OK || !isRoot(n, 3, whole(n, 3), 32, uint64(x)) {
			t.Fatalf("%d: %x %d", n, x, e)
		}
	}
}

func TestCubeRefused(t *testing.T) {
	for _, n := range refused() {
		if x, e := root.Cube(n); x != 0 || e != api.ErrArg {
			t.Errorf("%d: %x %d", n, x, e)
		}
	}
}

// P3.4

// TestNothingBehindWholeRoots: of all numbers the squares alone have no bits behind the point of their square root, and the cubes alone none behind that of their cube root.
// (The others have some here, as each of their roots is further from the whole number below it than the last bit.)
func TestNothingBehindWholeRoots(t *testing.T) {
	for n := range mostRooted + 1 {
		if x, e := root.Cube(n); e != api.OK || (x == 0) != (power(whole(n, 3), 3) == n) {
			t.Fatalf("Cube(%d): %x %d", n, x, e)
		}
	}
	squares := map[int]bool{}
	for x := range 1025 {
		squares[x*x] = true
	}
	for n := range mostRooted + 1 {
		if x, e := root.Square(n); e != api.OK || (x == 0) != squares[n] {
			t.Fatalf("Square(%d): %x %d", n, x, e)
		}
	}
}
