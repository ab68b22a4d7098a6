package size_test

import (
	"math"
	"math/big"
	"slices"
	"testing"

	"pestle/api"
	"pestle/size"
)

const most = api.Most

// edges has numbers about 0, about units and powers, about Most, and the ints' ends.
func edges() []int {
	return []int{
		math.MinInt, math.MinInt + 1, -most - 1, -most, -1 << 32, -1025, -1024, -2, -1, 0,
		1, 2, 3, 5, 8, 1000, 1024, 1025, 4096, 1<<31 - 1, 1 << 31, 1<<31 + 1, 1<<32 - 1, 1 << 32, 1 << 61, most / 3,
		most - 2, most - 1, most, most + 1, most + 2, 3 << 61, math.MaxInt - 1, math.MaxInt,
	}
}

// good tells whether a number is one that is reckoned with.
func good(x int) bool { return x >= 0 && x <= most }

// reckon is what a list comes to by numbers that have no bounds, errors as the chapter has them.
func reckon(l []int, first int64, put func(z, x, y *big.Int) *big.Int) (int, api.Errno) {
	z := big.NewInt(first)
	for _, x := range l {
		if !good(x) {
			return 0, api.ErrArg
		}
		put(z, z, big.NewInt(int64(x)))
	}
	if z.Cmp(big.NewInt(most)) > 0 {
		return 0, api.ErrOver
	}
	return int(z.Int64()), api.OK
}

func sum(l []int) (int, api.Errno)     { return reckon(l, 0, (*big.Int).Add) }
func product(l []int) (int, api.Errno) { return reckon(l, 1, (*big.Int).Mul) }

// held holds Add and Mul of a list against numbers without bounds.
func held(t *testing.T, l ...int) {
	t.Helper()
	n, e := size.Add(l...)
	if m, f := sum(l); n != m || e != f {
		t.Errorf("Add(%d): %d %d, not %d %d", l, n, e, m, f)
	}
	n, e = size.Mul(l...)
	if m, f := product(l); n != m || e != f {
		t.Errorf("Mul(%d): %d %d, not %d %d", l, n, e, m, f)
	}
}

// P2.1

type listed struct {
	l    []int
	want int
	err  api.Errno
}

func TestAdd(t *testing.T) {
	for _, c := range []listed{
		{nil, 0, api.OK},
		{[]int{}, 0, api.OK},
		{[]int{0}, 0, api.OK},
		{[]int{7}, 7, api.OK},
		{[]int{1, 2, 3, 4}, 10, api.OK},
		{[]int{1024, 0, 1}, 1025, api.OK},
		{[]int{most}, most, api.OK},
		{[]int{most, 0, 0}, most, api.OK},
		{[]int{0, most}, most, api.OK},
		{[]int{most - 1, 1}, most, api.OK},
		{[]int{1, most - 1}, most, api.OK},
		{[]int{1 << 61, 1 << 61}, most, api.OK},
		{[]int{1 << 61, 1<<61 - 1, 1}, most, api.OK},
		{[]int{most, 1}, 0, api.ErrOver},
		{[]int{1, most}, 0, api.ErrOver},
		{[]int{1 << 61, 1 << 61, 1}, 0, api.ErrOver},
		{[]int{1 << 61, 1<<61 + 1}, 0, api.ErrOver},
		{[]int{most, most}, 0, api.ErrOver},
		{[]int{most, most, most, most}, 0, api.ErrOver},
		{[]int{most, most, most, most, 5}, 0, api.ErrOver},
		{[]int{-1}, 0, api.ErrArg},
		{[]int{1, -1}, 0, api.ErrArg},
		{[]int{-1, 1}, 0, api.ErrArg},
		{[]int{5, -1, 5}, 0, api.ErrArg},
		{[]int{most + 1}, 0, api.ErrArg},
		{[]int{0, most + 1}, 0, api.ErrArg},
		{[]int{math.MaxInt}, 0, api.ErrArg},
		{[]int{math.MinInt}, 0, api.ErrArg},
		{[]int{math.MinInt, math.MaxInt, 1}, 0, api.ErrArg},
		{[]int{most, most, -1}, 0, api.ErrArg},
		{[]int{most, most, most + 1}, 0, api.ErrArg},
		{[]int{most, 1, -1}, 0, api.ErrArg},
	} {
		if n, e := size.Add(c.l...); n != c.want || e != c.err {
			t.Errorf("%d: %d %d, not %d %d", c.l, n, e, c.want, c.err)
		}
	}
}

func TestMul(t *testing.T) {
	for _, c := range []listed{
		{nil, 1, api.OK},
		{[]int{}, 1, api.OK},
		{[]int{0}, 0, api.OK},
		{[]int{1}, 1, api.OK},
		{[]int{7}, 7, api.OK},
		{[]int{2, 3, 5, 7}, 210, api.OK},
		{[]int{most}, most, api.OK},
		{[]int{most, 1, 1}, most, api.OK},
		{[]int{1, most}, most, api.OK},
		{[]int{1 << 31, 1 << 31}, most, api.OK},
		{[]int{1 << 61, 2}, most, api.OK},
		{[]int{1 << 20, 1 << 20, 1 << 20, 4}, most, api.OK},
		{[]int{1<<31 - 1, 1<<31 + 1}, most - 1, api.OK},
		{[]int{1 << 31, 1 << 31, 2}, 0, api.ErrOver},
		{[]int{most, 2}, 0, api.ErrOver},
		{[]int{2, most}, 0, api.ErrOver},
		{[]int{1 << 31, 1<<31 + 1}, 0, api.ErrOver},
		{[]int{3, 1 << 61}, 0, api.ErrOver},
		{[]int{3, most / 2}, 0, api.ErrOver},
		{[]int{5, 922337203685477581}, 0, api.ErrOver}, // 2^62 + 1 is 5 times that
		{[]int{1 << 32, 1 << 32}, 0, api.ErrOver},      // low 64 bits of 0
		{[]int{1 << 32, 1<<32 + 1}, 0, api.ErrOver},    // low 64 bits that would do
		{[]int{most, most}, 0, api.ErrOver},
		{[]int{most, most, most, most}, 0, api.ErrOver},
		{[]int{1 << 32, 1 << 32, 1}, 0, api.ErrOver},
		{[]int{most, 0}, 0, api.OK},
		{[]int{0, most, most}, 0, api.OK},
		{[]int{most, 0, most}, 0, api.OK},
		{[]int{most, most, 0}, 0, api.OK},
		{[]int{1 << 32, 1 << 32, 0}, 0, api.OK},
		{[]int{0, 0}, 0, api.OK},
		{[]int{-1}, 0, api.ErrArg},
		{[]int{-1, -1}, 0, api.ErrArg},
		{[]int{2, -1}, 0, api.ErrArg},
		{[]int{0, -1}, 0, api.ErrArg},
		{[]int{-1, 0}, 0, api.ErrArg},
		{[]int{0, most, most, -1}, 0, api.ErrArg},
		{[]int{most + 1}, 0, api.ErrArg},
		{[]int{0, most + 1}, 0, api.ErrArg},
		{[]int{most + 1, 0}, 0, api.ErrArg},
		{[]int{most, most, -1}, 0, api.ErrArg},
		{[]int{most, most, most + 1}, 0, api.ErrArg},
		{[]int{math.MaxInt, 0}, 0, api.ErrArg},
		{[]int{math.MinInt, math.MinInt}, 0, api.ErrArg},
	} {
		if n, e := size.Mul(c.l...); n != c.want || e != c.err {
			t.Errorf("%d: %d %d, not %d %d", c.l, n, e, c.want, c.err)
		}
	}
}

// TestListsOfEdges: all lists of up to three edges, in every order.
func TestListsOfEdges(t *testing.T) {
	held(t)
	for _, x := range edges() {
		held(t, x)
		for _, y := range edges() {
			held(t, x, y)
			for _, z := range edges() {
				held(t, x, y, z)
			}
		}
	}
}

// TestJustAboveMost: for each number the greatest other one that goes with it, and the next one.
func TestJustAboveMost(t *testing.T) {
	for x := 1; x < 3000; x++ {
		y := most / x
		if n, e := size.Mul(x, y); n != x*y || e != api.OK {
			t.Fatal("Mul", x, y, n, e)
		}
		if n, e := size.Mul(y+1, x); x > 1 && (n != 0 || e != api.ErrOver) {
			t.Fatal("Mul", y+1, x, n, e)
		}
		if n, e := size.Add(x, most-x); n != most || e != api.OK {
			t.Fatal("Add", x, most-x, n, e)
		}
		if n, e := size.Add(most-x+1, x); n != 0 || e != api.ErrOver {
			t.Fatal("Add", most-x+1, x, n, e)
		}
	}
	for i := range 63 {
		held(t, 1<<i, 1<<(62-i))
		held(t, 1<<i+1, 1<<(62-i))
		held(t, 1<<i, 1<<(62-i), 1, 2)
	}
}

func TestLongLists(t *testing.T) {
	ones := slices.Repeat([]int{1}, 5000)
	held(t, ones...)
	held(t, slices.Repeat([]int{2}, 62)...)
	held(t, slices.Repeat([]int{2}, 63)...)
	held(t, slices.Repeat([]int{2}, 64)...)
	held(t, slices.Repeat([]int{most}, 100)...)
	held(t, append(slices.Repeat([]int{most}, 100), 0)...)
	held(t, append(slices.Repeat([]int{most}, 100), -1)...)
	held(t, append(slices.Repeat([]int{1 << 32}, 100), most+1)...)
	held(t, append(ones, -1)...)
}

// P2.2

func TestUpAndDown(t *testing.T) {
	for _, c := range []struct{ n, unit, up, down int }{
		{0, 1, 0, 0},
		{0, 1024, 0, 0},
		{1, 1, 1, 1},
		{1, 1024, 1, 0},
		{1023, 1024, 1, 0},
		{1024, 1024, 1, 1024},
		{1025, 1024, 2, 1024},
		{37, 8, 5, 32},
		{40, 8, 5, 40},
		{41, 8, 6, 40},
		{10, 3, 4, 9},
		{3, 10, 1, 0},
		{most, 1, most, most},
		{most - 1, most, 1, 0},
		{most, most, 1, most},
		{most, 2, 1 << 61, most},
		{most - 1, 2, 1 << 61, most - 2},
		{most, 3, most/3 + 1, most - 1},
		{most, 1024, 1 << 52, most},
		{most - 1, 1024, 1 << 52, most - 1024},
		{0, most, 0, 0},
		{1, most, 1, 0},
		{0, most + 1, 0, 0},
		{1, most + 1, 1, 0},
		{most, most + 1, 1, 0},
		{0, math.MaxInt, 0, 0},
		{1, math.MaxInt, 1, 0},
		{most, math.MaxInt, 1, 0},
		{most, math.MaxInt - 1, 1, 0},
	} {
		if n, e := size.Up(c.n, c.unit); n != c.up || e != api.OK {
			t.Errorf("Up(%d, %d): %d %d, not %d", c.n, c.unit, n, e, c.up)
		}
		if n, e := size.Down(c.n, c.unit); n != c.down || e != api.OK {
			t.Errorf("Down(%d, %d): %d %d, not %d", c.n, c.unit, n, e, c.down)
		}
	}
}

// TestEachUpAndDown: small numbers and units, by steps of one unit.
func TestEachUpAndDown(t *testing.T) {
	for unit := 1; unit < 40; unit++ {
		up, down := 0, 0
		for n := range 400 {
			for up*unit < n {
				up++
			}
			for down+unit <= n {
				down += unit
			}
			if x, e := size.Up(n, unit); x != up || e != api.OK {
				t.Fatal("Up", n, unit, x, e)
			}
			if x, e := size.Down(n, unit); x != down || e != api.OK {
				t.Fatal("Down", n, unit, x, e)
			}
		}
	}
}

// TestUpAndDownOfEdges: every edge by every edge, held against numbers without bounds.
func TestUpAndDownOfEdges(t *testing.T) {
	for _, n := range edges() {
		for _, unit := range edges() {
			up, down, err := 0, 0, api.ErrArg
			if good(n) && unit >= 1 {
				q, r := new(big.Int).QuoRem(big.NewInt(int64(n)), big.NewInt(int64(unit)), new(big.Int))
				down, err = int(new(big.Int).Mul(q, big.NewInt(int64(unit))).Int64()), api.OK
				up = int(q.Int64()) + r.Sign()
			}
			if x, e := size.Up(n, unit); x != up || e != err {
				t.Errorf("Up(%d, %d): %d %d, not %d %d", n, unit, x, e, up, err)
			}
			if x, e := size.Down(n, unit); x != down || e != err {
				t.Errorf("Down(%d, %d): %d %d, not %d %d", n, unit, x, e, down, err)
			}
		}
	}
}

func TestUpAndDownRefused(t *testing.T) {
	for _, c := range [][2]int{
		{-1, 1}, {-1, 1024}, {-1024, 1024}, {math.MinInt, 1}, {math.MinInt, math.MaxInt},
		{most + 1, 1}, {most + 1, 1024}, {math.MaxInt, 2}, {math.MaxInt, math.MaxInt},
		{0, 0}, {1, 0}, {most, 0}, {0, -1}, {8, -1}, {8, -8}, {8, math.MinInt},
		{-1, 0}, {-8, -8}, {math.MinInt, -1}, {most + 1, 0}, {math.MaxInt, math.MinInt},
	} {
		if n, e := size.Up(c[0], c[1]); n != 0 || e != api.ErrArg {
			t.Errorf("Up(%d): %d %d", c, n, e)
		}
		if n, e := size.Down(c[0], c[1]); n != 0 || e != api.ErrArg {
			t.Errorf("Down(%d): %d %d", c, n, e)
		}
	}
}

func TestBlocks(t *testing.T) {
	for _, c := range []struct {
		bytes, want int
		err         api.Errno
	}{
		{0, 0, api.OK},
		{1, 1, api.OK},
		{1023, 1, api.OK},
		{1024, 1, api.OK},
		{1025, 2, api.OK},
		{2048, 2, api.OK},
		{2049, 3, api.OK},
		{1 << 32, 1 << 22, api.OK},
		{1<<32 + 1, 1<<22 + 1, api.OK},
		{most - 1024, 1<<52 - 1, api.OK},
		{most - 1023, 1 << 52, api.OK},
		{most, 1 << 52, api.OK},
		{most + 1, 0, api.ErrArg},
		{math.MaxInt, 0, api.ErrArg},
		{-1, 0, api.ErrArg},
		{-1024, 0, api.ErrArg},
		{math.MinInt, 0, api.ErrArg},
	} {
		if n, e := size.Blocks(c.bytes); n != c.want || e != c.err {
			t.Errorf("%d: %d %d, not %d %d", c.bytes, n, e, c.want, c.err)
		}
	}
	for _, x := range edges() {
		n, e := size.Blocks(x)
		if m, f := size.Up(x, 1024); n != m || e != f {
			t.Errorf("%d: %d %d, not %d %d", x, n, e, m, f)
		}
	}
}

// P2.3

func TestPower(t *testing.T) {
	want := 1
	for n := range 63 {
		if x, e := size.Power(n); x != want || e != api.OK {
			t.Errorf("%d: %d %d, not %d", n, x, e, want)
		}
		want += want
	}
	for _, n := range []int{63, 64, 65, 126, 127, 128, 1 << 32, 1<<32 + 3, most, most + 1, math.MaxInt} {
		if x, e := size.Power(n); x != 0 || e != api.ErrOver {
			t.Errorf("%d: %d %d", n, x, e)
		}
	}
	for _, n := range []int{-1, -2, -62, -63, -64, -most, math.MinInt + 1, math.MinInt} {
		if x, e := size.Power(n); x != 0 || e != api.ErrArg {
			t.Errorf("%d: %d %d", n, x, e)
		}
	}
}

func TestWithin(t *testing.T) {
	for _, c := range []struct {
		n, least, most int
		want           bool
	}{
		{4, 4, 4, true},
		{3, 4, 5, false},
		{4, 4, 5, true},
		{5, 4, 5, true},
		{6, 4, 5, false},
		{0, 0, 0, true},
		{0, -1, 1, true},
		{-1, -1, 1, true},
		{-2, -1, 1, false},
		{4, 5, 3, false},
		{5, 5, 3, false},
		{3, 5, 3, false},
		{math.MinInt, math.MinInt, math.MaxInt, true},
		{math.MaxInt, math.MinInt, math.MaxInt, true},
		{math.MinInt, math.MinInt + 1, math.MaxInt, false},
		{math.MaxInt, math.MinInt, math.MaxInt - 1, false},
		{math.MaxInt, math.MaxInt, math.MinInt, false},
		{math.MinInt, 1, 2, false},
		{math.MaxInt, -2, -1, false},
	} {
		if is := size.Within(c.n, c.least, c.most); is != c.want {
			t.Errorf("%d from %d to %d: %t", c.n, c.least, c.most, is)
		}
	}
	for n := -9; n <= 9; n++ {
		for least := -9; least <= 9; least++ {
			is := false
			for most := least - 3; most <= 9; most++ {
				is = is || most >= least && most == n // n is among them once most has come to it
				if size.Within(n, least, most) != is {
					t.Fatal(n, least, most)
				}
			}
		}
	}
}

// P2.4

// orders calls do with each order of a list.
func orders(l []int, k int, do func()) {
	if k == len(l) {
		do()
		return
	}
	for i := k; i < len(l); i++ {
		l[k], l[i] = l[i], l[k]
		orders(l, k+1, do)
		l[k], l[i] = l[i], l[k]
	}
}

// TestOrderDoesNotMatter: sums, products and errors are the same in each order.
func TestOrderDoesNotMatter(t *testing.T) {
	for _, l := range [][]int{
		{1, 2, 3, 4, 5},
		{0, most, most, 7},
		{most, 1, 0, 0, 1},
		{1 << 31, 1 << 31, 2, 1},
		{1 << 31, 1 << 30, 2, 1},
		{1 << 32, 1 << 32, 1 << 32, 0},
		{1 << 61, 1 << 60, 1 << 60, 1},
		{1 << 61, 1 << 60, 1<<60 - 1, 1},
		{most, most, -1, 0},
		{most, most, most + 1, 0},
		{3, math.MinInt, math.MaxInt, 0},
	} {
		a, ae := sum(l)
		m, me := product(l)
		k := slices.Clone(l)
		orders(k, 0, func() {
			if n, e := size.Add(k...); n != a || e != ae {
				t.Errorf("Add(%d): %d %d, not %d %d", k, n, e, a, ae)
			}
			if n, e := size.Mul(k...); n != m || e != me {
				t.Errorf("Mul(%d): %d %d, not %d %d", k, n, e, m, me)
			}
		})
	}
}

// TestAnswersAreReckonedWith: what is not refused is neither below 0 nor above Most; with an error there is nothing.
func TestAnswersAreReckonedWith(t *testing.T) {
	told := func(what string, n int, e api.Errno) {
		t.Helper()
		if e == api.OK && !good(n) || e != api.OK && n != 0 {
			t.Error(what, n, e)
		}
	}
	for _, x := range edges() {
		n, e := size.Power(x)
		told("Power", n, e)
		n, e = size.Blocks(x)
		told("Blocks", n, e)
		for _, y := range edges() {
			n, e = size.Add(x, y)
			told("Add", n, e)
			n, e = size.Mul(x, y)
			told("Mul", n, e)
			n, e = size.Up(x, y)
			told("Up", n, e)
			n, e = size.Down(x, y)
			told("Down", n, e)
		}
	}
}

// R2: what is given stays as it is, and what lies behind a list's length is not looked at.

func TestListsStayAsTheyAre(t *testing.T) {
	l := []int{5, 3, 0, most, -1, most + 1}
	kept := slices.Clone(l)
	if n, e := size.Add(l[:2]...); n != 8 || e != api.OK {
		t.Error(n, e)
	}
	if n, e := size.Mul(l[:2]...); n != 15 || e != api.OK {
		t.Error(n, e)
	}
	if n, e := size.Mul(l[:4]...); n != 0 || e != api.OK {
		t.Error(n, e)
	}
	if n, e := size.Add(l[:0]...); n != 0 || e != api.OK {
		t.Error(n, e)
	}
	if n, e := size.Mul(l[:0]...); n != 1 || e != api.OK {
		t.Error(n, e)
	}
	size.Add(l...)
	size.Mul(l...)
	if !slices.Equal(l, kept) {
		t.Error(l)
	}
}
