package shape_test

import (
	"math"
	"math/big"
	"math/rand"
	"testing"

	"pestle/api"
	"pestle/shape"
)

// algs are the algorithms that have a shape, each at its Kind.
var algs = []int{api.Argon2d, api.Argon2i, api.Argon2id}

// far are numbers that none of the parameters may be; some of their products, sums and low halves wrap around to such as may be.
func far() []int {
	return []int{math.MinInt, math.MinInt + 1, math.MinInt + 2, -1 << 62, -1 << 61, -1<<61 + 1, -1 << 60, -1 << 59, -1 << 32, -1<<32 + 1, -1<<32 + 4, -1 << 31, -1025, -8, -4, -1, 0, 1 << 32, 1<<32 + 1, 1<<32 + 8, 1<<32 + 32, 1 << 33, 1 << 58, 1 << 59, 1<<59 + 1, 1 << 60, 1<<60 + 1, 1 << 61, 1<<61 + 1, 1<<61 + 2, 1 << 62, 1<<62 + 1, 1<<62 + 2, math.MaxInt - 1, math.MaxInt}
}

// shaped is the shape of parameters, reckoned without a bound; false: they have none.
func shaped(p api.Params) (shape.Shape, bool) {
	in := func(x, from, to int) bool { return from <= x && x <= to }
	eight := new(big.Int).Mul(big.NewInt(8), big.NewInt(int64(p.Lanes)))
	if !in(p.Alg, 1, 3) || !in(p.Time, 1, 4294967295) || !in(p.Lanes, 1, 16777215) || !in(p.Size, 4, 1024) {
		return shape.Shape{}, false
	}
	if big.NewInt(int64(p.Memory)).Cmp(eight) < 0 || p.Memory > 4294967295 {
		return shape.Shape{}, false
	}
	segment := p.Memory / (4 * p.Lanes) // all else is so many times that
	return shape.Shape{Alg: p.Alg, Passes: p.Time, Lanes: p.Lanes, Memory: p.Memory, Blocks: 4 * segment * p.Lanes, Columns: 4 * segment, Segment: segment, Size: p.Size}, true
}

// same tells of parameters whose shape is another one than it is to be.
func same(t *testing.T, alg, time, memory, lanes, size int) {
	t.Helper()
	p := api.Params{Alg: alg, Time: time, Memory: memory, Lanes: lanes, Size: size}
	want, ok := shaped(p)
	err := api.OK
	if !ok {
		err = api.ErrParams
	}
	if s, e := shape.Of(p); s != want || e != err {
		t.Fatalf("Of(%+v): %+v, %d, not %+v, %d", p, s, e, want, err)
	}
}

// made is the shape of Argon2id's parameters, which may be.
func made(t *testing.T, time, memory, lanes int) shape.Shape {
	t.Helper()
	s, e := shape.Of(api.Params{Alg: api.Argon2id, Time: time, Memory: memory, Lanes: lanes, Size: 32})
	if e != api.OK {
		t.Fatal(time, memory, lanes, e)
	}
	return s
}

// some are shapes of all sizes: the least ones, uneven ones, and those at the limits.
func some(t *testing.T) []shape.Shape {
	t.Helper()
	var l []shape.Shape
	for _, c := range [][3]int{
		{1, 8, 1}, {1, 9, 1}, {1, 11, 1}, {1, 12, 1}, {2, 16, 2}, {1, 37, 2}, {3, 32, 4}, {3, 35, 4}, {5, 24, 3}, {2, 100, 7}, {7, 1000, 9},
		{1, 1 << 16, 1}, {3, 1 << 16, 4}, {1, 1 << 21, 4}, {4, 8 * 1000, 1000}, {1, api.MaxWide, 1}, {api.MaxWide, 8, 1},
		{api.MaxWide, api.MaxWide, 1}, {1, 8 * api.MaxLanes, api.MaxLanes}, {2, api.MaxWide, api.MaxLanes}, {api.MaxWide, api.MaxWide, api.MaxLanes},
	} {
		l = append(l, made(t, c[0], c[1], c[2]))
	}
	return l
}

// P27.1

// TestOfKnown: shapes written out, field by field; the first three are of RFC 9106's tests and of its recommended parameters.
func TestOfKnown(t *testing.T) {
	for _, c := range []struct {
		p    api.Params
		want shape.Shape
	}{
		{api.Params{Alg: api.Argon2d, Time: 3, Memory: 32, Lanes: 4, Size: 32}, shape.Shape{Alg: 1, Passes: 3, Lanes: 4, Memory: 32, Blocks: 32, Columns: 8, Segment: 2, Size: 32}},
		{api.Params{Alg: api.Argon2id, Time: 1, Memory: 1 << 21, Lanes: 4, Size: 32}, shape.Shape{Alg: 3, Passes: 1, Lanes: 4, Memory: 2097152, Blocks: 2097152, Columns: 524288, Segment: 131072, Size: 32}},
		{api.Params{Alg: api.Argon2id, Time: 3, Memory: 1 << 16, Lanes: 4, Size: 32}, shape.Shape{Alg: 3, Passes: 3, Lanes: 4, Memory: 65536, Blocks: 65536, Columns: 16384, Segment: 4096, Size: 32}},
		{api.Params{Alg: api.Argon2i, Time: 1, Memory: 8, Lanes: 1, Size: 4}, shape.Shape{Alg: 2, Passes: 1, Lanes: 1, Memory: 8, Blocks: 8, Columns: 8, Segment: 2, Size: 4}},
		{api.Params{Alg: api.Argon2i, Time: 9, Memory: 11, Lanes: 1, Size: 1024}, shape.Shape{Alg: 2, Passes: 9, Lanes: 1, Memory: 11, Blocks: 8, Columns: 8, Segment: 2, Size: 1024}},
		{api.Params{Alg: api.Argon2id, Time: 2, Memory: 12, Lanes: 1, Size: 16}, shape.Shape{Alg: 3, Passes: 2, Lanes: 1, Memory: 12, Blocks: 12, Columns: 12, Segment: 3, Size: 16}},
		{api.Params{Alg: api.Argon2d, Time: 2, Memory: 100, Lanes: 7, Size: 20}, shape.Shape{Alg: 1, Passes: 2, Lanes: 7, Memory: 100, Blocks: 84, Columns: 12, Segment: 3, Size: 20}},
		{api.Params{Alg: api.Argon2d, Time: 1, Memory: 1<<32 - 1, Lanes: 1, Size: 4}, shape.Shape{Alg: 1, Passes: 1, Lanes: 1, Memory: 4294967295, Blocks: 4294967292, Columns: 4294967292, Segment: 1073741823, Size: 4}},
		{api.Params{Alg: api.Argon2id, Time: 1<<32 - 1, Memory: 1<<32 - 1, Lanes: 1<<24 - 1, Size: 64}, shape.Shape{Alg: 3, Passes: 4294967295, Lanes: 16777215, Memory: 4294967295, Blocks: 4294967040, Columns: 256, Segment: 64, Size: 64}},
		{api.Params{Alg: api.Argon2id, Time: 1, Memory: 8 * (1<<24 - 1), Lanes: 1<<24 - 1, Size: 64}, shape.Shape{Alg: 3, Passes: 1, Lanes: 16777215, Memory: 134217720, Blocks: 134217720, Columns: 8, Segment: 2, Size: 64}},
	} {
		if s, e := shape.Of(c.p); s != c.want || e != api.OK {
			t.Errorf("%+v: %+v, %d, not %+v", c.p, s, e, c.want)
		}
	}
}

// TestOfRefuses: just beyond each edge, all else as it may be.
func TestOfRefuses(t *testing.T) {
	for _, p := range []api.Params{
		{},
		{Alg: 0, Time: 1, Memory: 64, Lanes: 1, Size: 32},
		{Alg: -1, Time: 1, Memory: 64, Lanes: 1, Size: 32},
		{Alg: api.Scrypt, Time: 1, Memory: 64, Lanes: 1, Size: 32},
		{Alg: api.Bcrypt, Time: 1, Memory: 64, Lanes: 1, Size: 32},
		{Alg: api.Pbkdf2, Time: 1, Memory: 64, Lanes: 1, Size: 32},
		{Alg: 7, Time: 1, Memory: 64, Lanes: 1, Size: 32},
		{Alg: 1 << 32, Time: 1, Memory: 64, Lanes: 1, Size: 32},
		{Alg: 1<<32 + 1, Time: 1, Memory: 64, Lanes: 1, Size: 32},
		{Alg: 3, Time: 0, Memory: 64, Lanes: 1, Size: 32},
		{Alg: 3, Time: -1, Memory: 64, Lanes: 1, Size: 32},
		{Alg: 3, Time: 1 << 32, Memory: 64, Lanes: 1, Size: 32},
		{Alg: 3, Time: 1, Memory: 64, Lanes: 0, Size: 32},
		{Alg: 3, Time: 1, Memory: 0, Lanes: 0, Size: 32},
		{Alg: 3, Time: 1, Memory: 64, Lanes: -1, Size: 32},
		{Alg: 3, Time: 1, Memory: 1<<32 - 1, Lanes: 1 << 24, Size: 32},
		{Alg: 3, Time: 1, Memory: 7, Lanes: 1, Size: 32},
		{Alg: 3, Time: 1, Memory: 15, Lanes: 2, Size: 32},
		{Alg: 3, Time: 1, Memory: 31, Lanes: 4, Size: 32},
		{Alg: 3, Time: 1, Memory: 8*(1<<24-1) - 1, Lanes: 1<<24 - 1, Size: 32},
		{Alg: 3, Time: 1, Memory: 1 << 32, Lanes: 1, Size: 32},
		{Alg: 3, Time: 1, Memory: 1<<32 + 64, Lanes: 1, Size: 32},
		{Alg: 3, Time: 1, Memory: 64, Lanes: 1<<61 + 1, Size: 32},
		{Alg: 3, Time: 1, Memory: 64, Lanes: 1 << 61, Size: 32},
		{Alg: 3, Time: 1, Memory: 64, Lanes: 1, Size: 3},
		{Alg: 3, Time: 1, Memory: 64, Lanes: 1, Size: 0},
		{Alg: 3, Time: 1, Memory: 64, Lanes: 1, Size: -32},
		{Alg: 3, Time: 1, Memory: 64, Lanes: 1, Size: 1025},
	} {
		if s, e := shape.Of(p); s != (shape.Shape{}) || e != api.ErrParams {
			t.Errorf("%+v: %+v, %d", p, s, e)
		}
	}
}

// TestOfEdges: each parameter about its edges, and far beyond, one at a time and two together.
func TestOfEdges(t *testing.T) {
	for alg := -10; alg <= 20; alg++ {
		same(t, alg, 1, 64, 2, 32)
	}
	for size := -10; size <= 1040; size++ {
		same(t, api.Argon2i, 1, 64, 2, size)
	}
	for _, time := range []int{1, 2, 3, 1<<31 - 1, 1 << 31, 1<<32 - 2, 1<<32 - 1} {
		same(t, api.Argon2d, time, 64, 2, 32)
		same(t, api.Argon2d, time, api.MaxWide, 3, 32)
	}
	for _, lanes := range []int{1, 2, 3, 255, 256, 65535, 65536, 1<<24 - 2, 1<<24 - 1, 1 << 24, 1<<24 + 1, 1<<29 - 1} {
		for by := -2; by <= 2; by++ {
			same(t, api.Argon2id, 1, 8*lanes+by, lanes, 32)
			same(t, api.Argon2id, 1, 12*lanes+by, lanes, 32)
			same(t, api.Argon2id, 1, 1<<32-1+by, lanes, 32)
		}
	}
	for _, x := range far() {
		same(t, x, 1, 64, 2, 32)
		same(t, 3, x, 64, 2, 32)
		same(t, 3, 1, x, 2, 32)
		same(t, 3, 1, 64, x, 32)
		same(t, 3, 1, 64, 2, x)
		for _, y := range far() {
			same(t, x, y, 64, 2, 32)
			same(t, 3, x, y, 2, 32)
			same(t, 3, 1, x, y, 32)
			same(t, 3, 1, 64, x, y)
			same(t, x, y, x, y, x)
		}
	}
}

// TestOfSmall: all small parameters.
func TestOfSmall(t *testing.T) {
	for lanes := -1; lanes <= 20; lanes++ {
		for memory := -1; memory <= 400; memory++ {
			for _, alg := range algs {
				same(t, alg, 1+memory&7, memory, lanes, 32)
			}
		}
	}
}

// TestOfAny: parameters of any kind, most of which may be.
func TestOfAny(t *testing.T) {
	c := rand.New(rand.NewSource(2700))
	for range 100000 {
		lanes := 1 + c.Intn(1<<c.Intn(25))
		memory := 8*lanes + c.Intn(1<<c.Intn(33)) - c.Intn(2)
		same(t, 1+c.Intn(3)+c.Intn(20)/19, 1+c.Intn(1<<c.Intn(33)), memory, lanes, 3+c.Intn(1023))
	}
}

// TestOfAlgsAlike: but for its Alg, an algorithm has the shape of the others.
func TestOfAlgsAlike(t *testing.T) {
	for kind, alg := range algs {
		s, e := shape.Of(api.Params{Alg: alg, Time: 3, Memory: 35, Lanes: 4, Size: 32})
		if want := (shape.Shape{Alg: alg, Passes: 3, Lanes: 4, Memory: 35, Blocks: 32, Columns: 8, Segment: 2, Size: 32}); s != want || e != api.OK {
			t.Error(kind, s, e)
		}
	}
}

// P27.2

func TestKind(t *testing.T) {
	for kind, alg := range algs {
		for _, lanes := range []int{1, 2, 5} {
			s, e := shape.Of(api.Params{Alg: alg, Time: 2, Memory: 64, Lanes: lanes, Size: 32})
			if n := s.Kind(); n != kind || e != api.OK {
				t.Errorf("Kind of %d: %d, not %d, %d", alg, n, kind, e)
			}
		}
	}
}

func TestFirst(t *testing.T) {
	for _, s := range some(t) {
		for _, pass := range []int{0, 1, 2, s.Passes / 2, s.Passes - 1} {
			for slice := range shape.Slices {
				want := 0
				if pass == 0 && slice == 0 {
					want = 2
				}
				if n := s.First(pass, slice); n != want {
					t.Errorf("%+v: First(%d, %d): %d, not %d", s, pass, slice, n, want)
				}
			}
		}
	}
}

// TestColumn: slice by slice, and index by index, the columns are all from 0 to the last one.
func TestColumn(t *testing.T) {
	for _, s := range some(t) {
		for slice := range shape.Slices {
			first := s.Columns / 4 * slice
			last := s.Columns/4*(slice+1) - 1
			if n := s.Column(slice, 0); n != first {
				t.Errorf("%+v: Column(%d, 0): %d, not %d", s, slice, n, first)
			}
			if n := s.Column(slice, s.Segment-1); n != last {
				t.Errorf("%+v: Column(%d, %d): %d, not %d", s, slice, s.Segment-1, n, last)
			}
		}
		next := 0
		for slice := range shape.Slices {
			for index := 0; index < s.Segment && s.Columns < 100000; index++ {
				if n := s.Column(slice, index); n != next {
					t.Fatalf("%+v: Column(%d, %d): %d, not %d", s, slice, index, n, next)
				}
				next++
			}
		}
		if s.Columns < 100000 && next != s.Columns {
			t.Errorf("%+v: %d columns", s, next)
		}
	}
}

// TestBefore: each column's, round and round.
func TestBefore(t *testing.T) {
	for _, s := range some(t) {
		if n := s.Before(0); n != s.Columns-1 {
			t.Errorf("%+v: Before(0): %d", s, n)
		}
		for _, column := range []int{1, 2, s.Segment, s.Columns / 2, s.Columns - 2, s.Columns - 1} {
			if n := s.Before(column); n != column-1 {
				t.Errorf("%+v: Before(%d): %d", s, column, n)
			}
		}
	}
	for memory := 8; memory < 200; memory++ {
		s := made(t, 1, memory, 1)
		at := 0
		for k := range s.Columns {
			at = s.Before(at)
			if want := s.Columns - 1 - k; at != want {
				t.Fatalf("%+v: %d, not %d", s, at, want)
			}
		}
	}
}

// TestPlace: lane by lane, and column by column, the places are all from 0 to the last block.
func TestPlace(t *testing.T) {
	for _, s := range some(t) {
		for _, c := range [][3]int{
			{0, 0, 0},
			{0, 1, 1},
			{0, s.Columns - 1, s.Columns - 1},
			{s.Lanes - 1, 0, s.Blocks - s.Columns},
			{s.Lanes - 1, s.Columns - 1, s.Blocks - 1},
			{s.Lanes / 2, 3, s.Lanes/2*s.Columns + 3},
		} {
			if n := s.Place(c[0], c[1]); n != c[2] {
				t.Errorf("%+v: Place(%d, %d): %d, not %d", s, c[0], c[1], n, c[2])
			}
		}
	}
	for lanes := 1; lanes < 12; lanes++ {
		for memory := 8 * lanes; memory < 24*lanes; memory++ {
			s := made(t, 1, memory, lanes)
			next := 0
			for lane := range s.Lanes {
				for column := range s.Columns {
					if n := s.Place(lane, column); n != next {
						t.Fatalf("%+v: Place(%d, %d): %d, not %d", s, lane, column, n, next)
					}
					next++
				}
			}
			if next != s.Blocks {
				t.Fatalf("%+v: %d places", s, next)
			}
		}
	}
}

// P27.3

// filled is how many blocks are filled, reckoned without a bound.
func filled(s shape.Shape) (int, api.Errno) {
	n := new(big.Int).Mul(big.NewInt(int64(s.Passes)), big.NewInt(int64(s.Blocks)))
	if n.Cmp(new(big.Int).Lsh(big.NewInt(1), 62)) > 0 {
		return 0, api.ErrOver
	}
	return int(n.Sub(n, big.NewInt(int64(2*s.Lanes))).Int64()), api.OK
}

func TestFillsKnown(t *testing.T) {
	for _, c := range []struct {
		time, memory, lanes, want int
		err                       api.Errno
	}{
		{1, 37, 2, 28, api.OK},
		{3, 32, 4, 88, api.OK},
		{1, 8, 1, 6, api.OK},
		{2, 8, 1, 14, api.OK},
		{1, 11, 1, 6, api.OK},
		{3, 1 << 16, 4, 196600, api.OK},
		{1<<32 - 1, 8, 1, 34359738358, api.OK},
		{1, 1<<32 - 1, 1<<24 - 1, 4261412610, api.OK},
		{1 << 31, 1 << 31, 1, 1<<62 - 2, api.OK}, // the passes' blocks are just Most
		{1 << 31, 1<<31 + 3, 1, 1<<62 - 2, api.OK},
		{1 << 31, 1 << 31, 1 << 20, 1<<62 - 1<<21, api.OK},
		{1<<30 + 1, 1<<32 - 4, 1, 1<<62 - 6, api.OK},
		{1 << 30, 1<<32 - 1, 1, 1<<62 - 1<<32 - 2, api.OK},
		{1<<32 - 1, 1 << 30, 1, 1<<62 - 1<<30 - 2, api.OK},
		{1<<31 + 1, 1 << 31, 1<<24 - 1, 4611685745663410050, api.OK},
		{1<<31 + 1, 1 << 31, 1, 0, api.ErrOver},
		{1 << 31, 1<<31 + 4, 1, 0, api.ErrOver},
		{1<<30 + 2, 1<<32 - 1, 1, 0, api.ErrOver},
		{1<<32 - 1, 1<<30 + 4, 1, 0, api.ErrOver},
		{1598131843, 2885673068, 16777169, 0, api.ErrOver}, // the passes' blocks are above Most, though less twice the lanes they are not
		{1676090393, 2751454240, 16777160, 0, api.ErrOver},
		{1<<32 - 1, 1 << 31, 1, 0, api.ErrOver}, // below 2^63
		{1<<32 - 1, 1<<32 - 1, 1, 0, api.ErrOver},
		{1<<32 - 1, 1<<32 - 1, 1<<24 - 1, 0, api.ErrOver},
	} {
		s := made(t, c.time, c.memory, c.lanes)
		if n, e := s.Fills(); n != c.want || e != c.err {
			t.Errorf("%+v: %d, %d, not %d, %d", s, n, e, c.want, c.err)
		}
	}
}

// TestFillsAny: held against numbers without a bound, small ones and those about Most.
func TestFillsAny(t *testing.T) {
	check := func(time, memory, lanes int) {
		t.Helper()
		s := made(t, time, memory, lanes)
		want, err := filled(s)
		if n, e := s.Fills(); n != want || e != err {
			t.Fatalf("%+v: %d, %d, not %d, %d", s, n, e, want, err)
		}
	}
	for _, s := range some(t) {
		check(s.Passes, s.Memory, s.Lanes)
	}
	c := rand.New(rand.NewSource(2701))
	for range 50000 {
		lanes := 1 + c.Intn(1<<c.Intn(25))
		memory := min(8*lanes+c.Intn(1<<c.Intn(33)), api.MaxWide)
		check(1+c.Intn(1<<c.Intn(33)), memory, lanes)
		memory = max(memory, 1<<30+8)
		edge := api.Most / memory // passes about the bound
		for by := -2; by <= 2; by++ {
			check(min(edge+by, api.MaxWide), memory, lanes)
		}
	}
}

func TestHas(t *testing.T) {
	outside := append(far(), 4, 5, 6, 7, 8, 100)
	for _, s := range some(t) {
		for _, pass := range []int{0, 1, 2, s.Passes / 2, s.Passes - 2, s.Passes - 1, s.Passes, s.Passes + 1, -1, -2} {
			for slice := -2; slice < 7; slice++ {
				want := pass >= 0 && pass < s.Passes && (slice == 0 || slice == 1 || slice == 2 || slice == 3)
				if is := s.Has(shape.Turn{Pass: pass, Slice: slice}); is != want {
					t.Errorf("%+v: Has(%d, %d): %t", s, pass, slice, is)
				}
			}
		}
		for _, x := range outside {
			if x != 0 && s.Has(shape.Turn{Slice: x}) {
				t.Errorf("%+v: Has(0, %d)", s, x)
			}
			if (x < 0 || x >= s.Passes) && s.Has(shape.Turn{Pass: x}) {
				t.Errorf("%+v: Has(%d, 0)", s, x)
			}
		}
	}
}

func TestNext(t *testing.T) {
	for _, s := range some(t) {
		for _, pass := range []int{0, 1, s.Passes / 2, s.Passes - 2, s.Passes - 1} {
			if pass < 0 || pass >= s.Passes {
				continue
			}
			for slice := range shape.Slices {
				want, more := shape.Turn{Pass: pass, Slice: slice + 1}, true
				if slice == 3 {
					want = shape.Turn{Pass: pass + 1}
				}
				if slice == 3 && pass == s.Passes-1 {
					want, more = shape.Turn{}, false
				}
				if n, ok := s.Next(shape.Turn{Pass: pass, Slice: slice}); n != want || ok != more {
					t.Errorf("%+v: Next(%d, %d): %v, %t, not %v, %t", s, pass, slice, n, ok, want, more)
				}
			}
		}
	}
}

// TestNoNext: behind a turn that a shape hasn't there is none.
func TestNoNext(t *testing.T) {
	s := made(t, 3, 64, 2)
	for _, at := range []shape.Turn{{-1, 3}, {-1, 0}, {0, -1}, {0, 4}, {1, -1}, {1, 7}, {2, 4}, {3, -1}, {3, 0}, {3, 3}, {4, 0}, {math.MaxInt, 3}, {math.MaxInt, math.MaxInt}, {math.MinInt, math.MinInt}, {0, math.MaxInt}} {
		if n, ok := s.Next(at); n != (shape.Turn{}) || ok {
			t.Errorf("behind %v: %v, %t", at, n, ok)
		}
	}
}

// P27.4

// TestTurnsAndFills: from the first turn on each one that there is comes once, in order; their segments' blocks, from First on, are the Fills, each of another place but from pass to pass.
func TestTurnsAndFills(t *testing.T) {
	for passes := 1; passes <= 5; passes++ {
		for lanes := 1; lanes <= 5; lanes++ {
			for memory := 8 * lanes; memory < 30*lanes; memory += 3 {
				s := made(t, passes, memory, lanes)
				seen := map[shape.Turn]bool{}
				times := make([]int, s.Blocks) // how often each place is filled
				blocks := 0
				at, more := shape.Turn{}, true
				for last := -1; more; at, more = s.Next(at) {
					if seen[at] || !s.Has(at) || 4*at.Pass+at.Slice <= last {
						t.Fatalf("%+v: %v", s, at)
					}
					seen[at], last = true, 4*at.Pass+at.Slice
					for lane := range s.Lanes {
						for index := s.First(at.Pass, at.Slice); index < s.Segment; index++ {
							times[s.Place(lane, s.Column(at.Slice, index))]++
							blocks++
						}
					}
				}
				if n, e := s.Fills(); n != blocks || e != api.OK {
					t.Fatalf("%+v: %d blocks, Fills %d, %d", s, blocks, n, e)
				}
				if len(seen) != passes*shape.Slices {
					t.Fatalf("%+v: %d turns", s, len(seen))
				}
				for place, n := range times {
					want := passes
					if place%s.Columns < 2 { // not in the first pass
						want--
					}
					if n != want {
						t.Fatalf("%+v: block %d is filled %d times", s, place, n)
					}
				}
			}
		}
	}
}

// TestBeforeIsFilled: what is ahead of a block was filled ahead of it, or is one that a lane begins with.
func TestBeforeIsFilled(t *testing.T) {
	s := made(t, 3, 41, 1)
	filled := map[int]bool{0: true, 1: true}
	for at, more := (shape.Turn{}), true; more; at, more = s.Next(at) {
		for index := s.First(at.Pass, at.Slice); index < s.Segment; index++ {
			column := s.Column(at.Slice, index)
			if !filled[s.Before(column)] {
				t.Fatal(at, index)
			}
			filled[column] = true
		}
	}
}

// R1, R3 and R6

// TestAnyShape: no call panics, whatever the shape, nobody's and a zero one among them, and whatever the arguments.
func TestAnyShape(t *testing.T) {
	c := rand.New(rand.NewSource(2702))
	edges := append(far(), 1, 2, 3, 4, 7, 8, 1024)
	pick := func() int { return edges[c.Intn(len(edges))] }
	shapes := append(some(t), shape.Shape{})
	for range 20000 {
		shapes = append(shapes, shape.Shape{Alg: pick(), Passes: pick(), Lanes: pick(), Memory: pick(), Blocks: pick(), Columns: pick(), Segment: pick(), Size: pick()})
	}
	for _, s := range shapes {
		s.Kind()
		s.Fills()
		for range 10 {
			s.First(pick(), pick())
			s.Column(pick(), pick())
			s.Before(pick())
			s.Place(pick(), pick())
			s.Next(shape.Turn{Pass: pick(), Slice: pick()})
			s.Has(shape.Turn{Pass: pick(), Slice: pick()})
		}
	}
}

// TestZeroShape: it has no turn, so that a walk over them ends.
func TestZeroShape(t *testing.T) {
	var s shape.Shape
	for pass := -1; pass <= 1; pass++ {
		for slice := -1; slice <= 4; slice++ {
			at := shape.Turn{Pass: pass, Slice: slice}
			if n, ok := s.Next(at); s.Has(at) || n != (shape.Turn{}) || ok {
				t.Error(at, n, ok)
			}
		}
	}
}

// TestAgain: parameters have one shape, whatever is asked meanwhile, and no call changes it.
func TestAgain(t *testing.T) {
	for _, s := range some(t) {
		was := s
		for range 3 {
			s.Kind()
			s.First(0, 0)
			s.Column(3, 1)
			s.Before(0)
			s.Place(0, 7)
			s.Fills()
			s.Next(shape.Turn{})
			s.Has(shape.Turn{})
			shape.Of(api.Params{})
		}
		if s != was || s != made(t, s.Passes, s.Memory, s.Lanes) {
			t.Errorf("%+v, not %+v", s, was)
		}
	}
}

func TestSlices(t *testing.T) {
	if shape.Slices != 4 {
		t.Error(shape.Slices)
	}
}

func TestExample(t *testing.T) {
	s, e := shape.Of(api.Params{Alg: api.Argon2id, Time: 1, Memory: 37, Lanes: 2, Size: 32})
	if want := (shape.Shape{Alg: api.Argon2id, Passes: 1, Lanes: 2, Memory: 37, Blocks: 32, Columns: 16, Segment: 4, Size: 32}); s != want || e != api.OK {
		t.Error(s, e)
	}
}
