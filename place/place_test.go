package place_test

import (
	"encoding/binary"
	"encoding/hex"
	"math"
	"math/big"
	"math/rand"
	"slices"
	"strings"
	"testing"

	"pestle/api"
	"pestle/blake"
	"pestle/blend"
	"pestle/block"
	"pestle/long"
	"pestle/place"
	"pestle/shape"
)

// shaped is the shape of parameters.
func shaped(t *testing.T, alg, passes, memory, lanes int) shape.Shape {
	t.Helper()
	s, e := shape.Of(api.Params{Alg: alg, Time: passes, Memory: memory, Lanes: lanes, Size: 32})
	if e != api.OK {
		t.Fatalf("no shape of %d passes, %d blocks, %d lanes: %d", passes, memory, lanes, e)
	}
	return s
}

// small are shapes whose blocks can all be gone through, the least one among them, some with memory that isn't used.
func small(t *testing.T) []shape.Shape {
	return []shape.Shape{
		shaped(t, api.Argon2d, 1, 8, 1),
		shaped(t, api.Argon2i, 3, 8, 1),
		shaped(t, api.Argon2id, 2, 16, 2),
		shaped(t, api.Argon2id, 3, 32, 4),
		shaped(t, api.Argon2d, 2, 100, 3),
		shaped(t, api.Argon2i, 4, 77, 1),
		shaped(t, api.Argon2id, 2, 5*28+7, 7),
	}
}

// great are shapes at the parameters' edges.
func great(t *testing.T) []shape.Shape {
	return []shape.Shape{
		shaped(t, api.Argon2d, 1<<32-1, 1<<32-1, 1),
		shaped(t, api.Argon2i, 1<<32-1, 1<<32-1, 3),
		shaped(t, api.Argon2id, 1<<32-1, 1<<32-1, 1<<24-1),
		shaped(t, api.Argon2id, 1, 8*(1<<24-1), 1<<24-1),
		shaped(t, api.Argon2d, 2, 1<<32-1, 256),
	}
}

// turns are a shape's, or those at its edges, if it has many.
func turns(s shape.Shape) []shape.Turn {
	var l []shape.Turn
	for _, pass := range []int{0, 1, 2, 3, s.Passes / 2, s.Passes - 2, s.Passes - 1} {
		for slice := range 4 {
			if t := (shape.Turn{Pass: pass, Slice: slice}); s.Has(t) && !slices.Contains(l, t) {
				l = append(l, t)
			}
		}
	}
	return l
}

// indexes are those of a segment that are filled, or those at its edges, if there are many.
func indexes(s shape.Shape, t shape.Turn) []int {
	var l []int
	for i := s.First(t.Pass, t.Slice); i < s.Segment; i++ {
		if i > 40 && i < s.Segment-3 {
			i = s.Segment - 3
		}
		l = append(l, i)
	}
	return l
}

// halves are numbers of 32 bits, the edges and others.
func halves() []uint32 {
	l := []uint32{0, 1, 2, 3, 5, 1<<16 - 1, 1 << 16, 1<<16 + 1, 0x5a82_7999, 1<<31 - 1, 1 << 31, 1<<31 + 1, 3 << 30, math.MaxUint32 - 2, math.MaxUint32 - 1, math.MaxUint32}
	r := rand.New(rand.NewSource(2901))
	for range 16 {
		l = append(l, r.Uint32())
	}
	return l
}

// window is which columns of a lane may be referred to, the oldest one first, as RFC 9106 has it: the last three segments that are done, and the lane's own one as far as it is; but for the newest block of one's own lane, or of another one at a segment's beginning.
func window(s shape.Shape, t shape.Turn, index int, own bool) []int {
	var done [][]int // the segments of one lane, as they were filled
	for turn := range 4*t.Pass + t.Slice {
		var l []int
		for i := range s.Segment {
			l = append(l, turn%4*s.Segment+i)
		}
		done = append(done, l)
	}
	w := slices.Concat(done[max(0, len(done)-3):]...)
	if t.Pass == 0 {
		w = slices.Concat(done...)
	}
	for i := range index {
		if own {
			w = append(w, t.Slice*s.Segment+i)
		}
	}
	if own || index == 0 {
		w = w[:len(w)-1]
	}
	return w
}

// picked is which one of so many a number picks, reckoned without a bound.
func picked(area int, j1 uint32) int {
	n := big.NewInt(int64(j1))
	x := n.Rsh(n.Mul(n, n), 32)
	y := x.Rsh(x.Mul(x, big.NewInt(int64(area))), 32)
	return int(y.Sub(big.NewInt(int64(area)-1), y).Int64())
}

// P29.1

// TestAreaKnown: reckoned by hand, of 4 lanes of 20 columns, 5 to a segment.
func TestAreaKnown(t *testing.T) {
	s := shaped(t, api.Argon2id, 3, 80, 4)
	for _, c := range []struct{ pass, slice, index, own, other, from int }{
		{0, 0, 2, 1, 0, 0},
		{0, 0, 3, 2, 0, 0},
		{0, 0, 4, 3, 0, 0},
		{0, 1, 0, 4, 4, 0},
		{0, 1, 1, 5, 5, 0},
		{0, 1, 4, 8, 5, 0},
		{0, 2, 0, 9, 9, 0},
		{0, 2, 3, 12, 10, 0},
		{0, 3, 0, 14, 14, 0},
		{0, 3, 4, 18, 15, 0},
		{1, 0, 0, 14, 14, 5},
		{1, 0, 1, 15, 15, 5},
		{1, 0, 4, 18, 15, 5},
		{1, 1, 0, 14, 14, 10},
		{1, 1, 2, 16, 15, 10},
		{1, 2, 0, 14, 14, 15},
		{1, 2, 4, 18, 15, 15},
		{1, 3, 0, 14, 14, 0},
		{1, 3, 4, 18, 15, 0},
		{2, 0, 0, 14, 14, 5},
		{2, 2, 1, 15, 15, 15},
		{2, 3, 2, 16, 15, 0},
	} {
		turn := shape.Turn{Pass: c.pass, Slice: c.slice}
		own, other, from := place.Area(s, turn, c.index, true), place.Area(s, turn, c.index, false), place.From(s, turn)
		if own != c.own || other != c.other || from != c.from {
			t.Errorf("%+v: own %d, other %d, from %d", c, own, other, from)
		}
	}
}

// TestArea: the columns from From on are just those of RFC 9106's view.
func TestArea(t *testing.T) {
	for _, s := range small(t) {
		for _, turn := range turns(s) {
			for _, index := range indexes(s, turn) {
				for _, own := range []bool{true, false} {
					if !own && turn == (shape.Turn{}) { // nobody refers to another lane
						continue
					}
					var got []int
					for i := range place.Area(s, turn, index, own) {
						got = append(got, (place.From(s, turn)+i)%s.Columns)
					}
					if want := window(s, turn, index, own); !slices.Equal(got, want) {
						t.Fatalf("%+v, %+v, index %d, own %t: %d, not %d", s, turn, index, own, got, want)
					}
				}
			}
		}
	}
}

// TestAreaGreat: of shapes at the parameters' edges, by the document's words.
func TestAreaGreat(t *testing.T) {
	for _, s := range great(t) {
		for _, turn := range turns(s) {
			base, from := s.Columns-s.Columns/4, []int{s.Columns / 4, s.Columns / 2, s.Columns / 4 * 3, 0}[turn.Slice]
			if turn.Pass == 0 {
				base, from = []int{0, s.Columns / 4, s.Columns / 2, s.Columns / 4 * 3}[turn.Slice], 0
			}
			if got := place.From(s, turn); got != from {
				t.Errorf("%+v, %+v: from %d, not %d", s, turn, got, from)
			}
			for _, index := range indexes(s, turn) {
				other := base
				if index == 0 {
					other--
				}
				if got := place.Area(s, turn, index, true); got != base+index-1 {
					t.Errorf("%+v, %+v, index %d: own %d", s, turn, index, got)
				}
				if got := place.Area(s, turn, index, false); got != other {
					t.Errorf("%+v, %+v, index %d: other %d, not %d", s, turn, index, got, other)
				}
			}
		}
	}
}

// P29.2

func TestPickKnown(t *testing.T) {
	for _, c := range []struct {
		area int
		j1   uint32
		want int
	}{
		{10, 0, 9},
		{10, math.MaxUint32, 0},
		{1, 0, 0},
		{1, math.MaxUint32, 0},
		{2, 0x5a82_7999, 1}, // the square root of a half: x is 2^31 - 1
		{2, 0xb504_f333, 1},
		{2, 0xb504_f334, 0}, // x is 2^31, from there on
		{4, 1 << 31, 2},     // x is 2^30, y is 1
		{4, 1<<31 - 1, 3},
		{100, 1 << 31, 74},
		{100, 3 << 30, 43},
		{1 << 32, 0, 1<<32 - 1},
		{1 << 32, 65535, 1<<32 - 1}, // its square is below 2^32
		{1 << 32, 65536, 1<<32 - 2},
		{1 << 32, 1 << 31, 3<<30 - 1},
		{1 << 32, math.MaxUint32, 1},
		{1<<32 - 1, math.MaxUint32, 1},
		{1<<31 + 1, math.MaxUint32, 1},
		{1 << 31, math.MaxUint32, 0},
	} {
		if got := place.Pick(c.area, c.j1); got != c.want {
			t.Errorf("Pick(%d, %d): %d, not %d", c.area, c.j1, got, c.want)
		}
	}
}

func TestPick(t *testing.T) {
	r := rand.New(rand.NewSource(2902))
	var areas []int
	for n := range 33 {
		for by := -2; by <= 2; by++ {
			if area := 1<<n + by; area >= 1 && area <= 1<<32 {
				areas = append(areas, area)
			}
		}
		areas = append(areas, 1+r.Intn(1<<n))
	}
	for range 300 {
		areas = append(areas, 1+r.Intn(1<<32))
	}
	for _, area := range areas {
		for _, j1 := range append(halves(), r.Uint32(), r.Uint32()) {
			if got, want := place.Pick(area, j1), picked(area, j1); got != want {
				t.Fatalf("Pick(%d, %d): %d, not %d", area, j1, got, want)
			}
		}
	}
}

func TestPickOfNone(t *testing.T) {
	for _, area := range []int{0, -1, -2, -10, -1 << 31, -1<<32 + 10, -1 << 32, -1 << 62, math.MinInt + 1, math.MinInt} {
		for _, j1 := range halves() {
			if got := place.Pick(area, j1); got != 0 {
				t.Errorf("Pick(%d, %d): %d", area, j1, got)
			}
		}
	}
}

// TestPickAll: each of few is picked by some number, the last ones by the lower ones.
func TestPickAll(t *testing.T) {
	for area := 1; area <= 40; area++ {
		last := area - 1
		for j := 0; j <= math.MaxUint32; j += 1 << 17 {
			got := place.Pick(area, uint32(j))
			if got != last && got != last-1 {
				t.Fatalf("Pick(%d, %d): %d, behind %d", area, j, got, last)
			}
			last = got
		}
		if last != 0 {
			t.Errorf("of %d only those from %d on are picked", area, last)
		}
	}
}

func TestLane(t *testing.T) {
	for _, s := range append(small(t), great(t)...) {
		for _, turn := range turns(s) {
			for _, lane := range []int{0, s.Lanes / 2, s.Lanes - 1} {
				for _, j2 := range append(halves(), uint32(s.Lanes), uint32(s.Lanes-1), uint32(s.Lanes+1), uint32(255*s.Lanes), uint32(255*s.Lanes-1)) {
					want := lane
					if turn != (shape.Turn{}) {
						want = int(new(big.Int).Mod(big.NewInt(int64(j2)), big.NewInt(int64(s.Lanes))).Int64())
					}
					if got := place.Lane(s, turn, lane, j2); got != want {
						t.Fatalf("%+v, %+v, lane %d, %d: %d, not %d", s, turn, lane, j2, got, want)
					}
				}
			}
		}
	}
}

// P29.3

// TestOfKnown: reckoned by hand, of 4 lanes of 20 columns, 5 to a segment.
func TestOfKnown(t *testing.T) {
	s := shaped(t, api.Argon2id, 3, 80, 4)
	for _, c := range []struct {
		pass, slice, lane, index int
		j1, j2                   uint32
		want                     place.Spot
	}{
		{0, 0, 3, 2, 0, 0, place.Spot{Lane: 3, Column: 0}},
		{0, 0, 3, 4, 0, 1, place.Spot{Lane: 3, Column: 2}},
		{0, 0, 0, 4, math.MaxUint32, 2, place.Spot{Lane: 0, Column: 0}},
		{0, 1, 0, 0, 0, 0, place.Spot{Lane: 0, Column: 3}},
		{0, 1, 0, 0, 0, 7, place.Spot{Lane: 3, Column: 3}},
		{0, 1, 0, 1, 0, 7, place.Spot{Lane: 3, Column: 4}},
		{0, 1, 0, 4, 0, 8, place.Spot{Lane: 0, Column: 7}},
		{0, 3, 2, 4, 0, 6, place.Spot{Lane: 2, Column: 17}},
		{1, 0, 1, 0, 0, 1, place.Spot{Lane: 1, Column: 18}},
		{1, 0, 1, 1, 0, 1, place.Spot{Lane: 1, Column: 19}},
		{1, 0, 1, 2, 0, 1, place.Spot{Lane: 1, Column: 0}},
		{1, 0, 1, 4, math.MaxUint32, 1, place.Spot{Lane: 1, Column: 5}},
		{1, 1, 1, 4, 0, 2, place.Spot{Lane: 2, Column: 4}},
		{1, 1, 1, 4, 0, 1, place.Spot{Lane: 1, Column: 7}},
		{1, 1, 1, 4, 1 << 31, 1, place.Spot{Lane: 1, Column: 3}}, // y is 4 of 18: 10 + 13 less 20
		{2, 2, 3, 0, 0, 0, place.Spot{Lane: 0, Column: 8}},
		{2, 3, 3, 0, 0, math.MaxUint32, place.Spot{Lane: 3, Column: 13}},
		{2, 3, 3, 4, math.MaxUint32, 4, place.Spot{Lane: 0, Column: 0}},
	} {
		if got, e := place.Of(s, shape.Turn{Pass: c.pass, Slice: c.slice}, c.lane, c.index, c.j1, c.j2); got != c.want || e != api.OK {
			t.Errorf("%+v: %+v, %d", c, got, e)
		}
	}
}

// TestOf: what is told is the one of RFC 9106's view.
func TestOf(t *testing.T) {
	for _, s := range small(t) {
		for _, turn := range turns(s) {
			for _, index := range indexes(s, turn) {
				for lane := range s.Lanes {
					for n, j1 := range halves() {
						j2 := j1 + uint32(n)
						want := place.Spot{Lane: lane}
						if turn != (shape.Turn{}) {
							want.Lane = int(j2 % uint32(s.Lanes))
						}
						w := window(s, turn, index, want.Lane == lane)
						want.Column = w[picked(len(w), j1)]
						if got, e := place.Of(s, turn, lane, index, j1, j2); got != want || e != api.OK {
							t.Fatalf("%+v, %+v, lane %d, index %d, %d, %d: %+v, %d, not %+v", s, turn, lane, index, j1, j2, got, e, want)
						}
					}
				}
			}
		}
	}
}

// TestOfGreat: of shapes at the parameters' edges, by the layer's own calls, and no bound.
func TestOfGreat(t *testing.T) {
	r := rand.New(rand.NewSource(2903))
	for _, s := range great(t) {
		for _, turn := range turns(s) {
			for _, index := range indexes(s, turn) {
				for _, lane := range []int{0, r.Intn(s.Lanes), s.Lanes - 1} {
					for n, j1 := range halves() {
						j2 := []uint32{r.Uint32(), uint32(lane), uint32(lane + s.Lanes)}[n%3]
						of := place.Lane(s, turn, lane, j2)
						at := picked(place.Area(s, turn, index, of == lane), j1) + place.From(s, turn)
						want := place.Spot{Lane: of, Column: at % s.Columns}
						if got, e := place.Of(s, turn, lane, index, j1, j2); got != want || e != api.OK {
							t.Fatalf("%+v, %+v, lane %d, index %d, %d, %d: %+v, %d, not %+v", s, turn, lane, index, j1, j2, got, e, want)
						}
					}
				}
			}
		}
	}
}

// none tells of a block that is told where there is none.
func none(t *testing.T, s shape.Shape, turn shape.Turn, lane, index int) {
	t.Helper()
	for _, j := range []uint32{0, 1, 1 << 31, math.MaxUint32} {
		if got, e := place.Of(s, turn, lane, index, j, ^j); got != (place.Spot{}) || e != api.ErrNone {
			t.Fatalf("%+v, %+v, lane %d, index %d: %+v, %d", s, turn, lane, index, got, e)
		}
	}
}

// far are numbers that none may be, of any shape's turns, lanes and indexes.
func far() []int {
	return []int{math.MinInt, math.MinInt + 1, -1 << 62, -1 << 33, -1 << 32, -1<<32 + 2, -1 << 31, -5, -4, -3, -2, -1, 1 << 32, 1<<32 + 1, 1<<32 + 2, 1 << 33, 1 << 62, math.MaxInt - 1, math.MaxInt}
}

func TestOfNone(t *testing.T) {
	for _, s := range append(small(t), great(t)...) {
		none(t, shape.Shape{}, shape.Turn{}, 0, 0)
		for _, turn := range turns(s) {
			first := 0
			if turn == (shape.Turn{}) {
				first = 2
			}
			none(t, shape.Shape{}, turn, 0, first)
			for _, x := range append(far(), s.Lanes, s.Lanes+1, 2*s.Lanes) {
				none(t, s, turn, x, first)
			}
			for _, x := range append(far(), first-1, first-2, s.Segment, s.Segment+1, s.Columns) {
				none(t, s, turn, 0, x)
				none(t, s, turn, s.Lanes-1, x)
			}
			for _, x := range append(far(), s.Passes, s.Passes+1) {
				none(t, s, shape.Turn{Pass: x, Slice: turn.Slice}, 0, 2)
				none(t, s, shape.Turn{Pass: x, Slice: turn.Slice}, 0, first)
			}
			for _, x := range append(far(), 4, 5, 8) {
				none(t, s, shape.Turn{Pass: turn.Pass, Slice: x}, 0, first)
				none(t, s, shape.Turn{Pass: turn.Pass, Slice: x}, s.Lanes-1, 0)
			}
		}
	}
}

// TestOfIndexes: from First to Segment - 1 there is one, ahead of it and behind there is none.
func TestOfIndexes(t *testing.T) {
	for _, s := range small(t) {
		for pass := -1; pass <= s.Passes; pass++ {
			for slice := -1; slice <= 4; slice++ {
				for lane := -1; lane <= s.Lanes; lane++ {
					for index := -3; index <= s.Segment+3; index++ {
						turn := shape.Turn{Pass: pass, Slice: slice}
						has := pass >= 0 && pass < s.Passes && slice >= 0 && slice < 4 && lane >= 0 && lane < s.Lanes && index >= 0 && index < s.Segment
						if !has || pass+slice == 0 && index < 2 {
							none(t, s, turn, lane, index)
						} else if _, e := place.Of(s, turn, lane, index, 7, 7); e != api.OK {
							t.Fatalf("%+v, %+v, lane %d, index %d: %d", s, turn, lane, index, e)
						}
					}
				}
			}
		}
	}
}

// TestEnds: of shapes that nobody made, and of anything else, each call ends.
func TestEnds(t *testing.T) {
	r := rand.New(rand.NewSource(2904))
	l := append(far(), 0, 1, 2, 3, 4, 8)
	any := func() int { return l[r.Intn(len(l))] }
	few := func() int { return r.Intn(4) - 1 }
	for n := range 100000 {
		x := any
		if n%2 == 0 {
			x = few
		}
		s := shape.Shape{Alg: x(), Passes: x(), Lanes: x(), Memory: x(), Blocks: x(), Columns: x(), Segment: x(), Size: x()}
		turn := shape.Turn{Pass: x(), Slice: x()}
		lane, index := x(), x()
		j1, j2 := r.Uint32(), r.Uint32()
		place.Of(s, turn, lane, index, j1, j2)
		place.Pick(place.Area(s, turn, index, n%3 == 0), j1)
		place.From(s, turn)
		place.Lane(s, turn, lane, j2)
		place.Settled(s, turn, lane, place.Spot{Lane: x(), Column: x()})
	}
	for _, area := range []int{1<<32 + 1, 1 << 62, math.MaxInt} {
		for _, j1 := range halves() {
			place.Pick(area, j1)
		}
	}
}

// P29.4

// others tells whether a block of another lane is in the turn's slice.
func others(s shape.Shape, turn shape.Turn, lane int, at place.Spot) bool {
	return at.Lane != lane && at.Column/s.Segment == turn.Slice
}

func TestSettled(t *testing.T) {
	for _, s := range small(t) {
		for _, turn := range turns(s) {
			for lane := range s.Lanes {
				for of := range s.Lanes {
					for column := range s.Columns {
						at := place.Spot{Lane: of, Column: column}
						want := !others(s, turn, lane, at)
						if got := place.Settled(s, turn, lane, at); got != want {
							t.Fatalf("%+v, %+v, lane %d: %+v is settled: %t", s, turn, lane, at, got)
						}
					}
				}
			}
		}
	}
}

// TestSettledKnown: about the edges of the slices, of 4 lanes of 20 columns, and of shapes at the parameters' edges.
func TestSettledKnown(t *testing.T) {
	l := append(great(t), shaped(t, api.Argon2id, 3, 80, 4))
	for _, s := range l[1:] { // the first one has one lane
		for _, turn := range turns(s) {
			first, last := turn.Slice*s.Segment, (turn.Slice+1)*s.Segment-1
			for column, want := range map[int]bool{first - 1: true, first: false, first + 1: false, last - 1: false, last: false, last + 1: true} {
				if column < 0 || column >= s.Columns {
					continue
				}
				for _, of := range []int{0, 1, s.Lanes - 1} {
					at := place.Spot{Lane: of, Column: column}
					if got := place.Settled(s, turn, 1, at); got != (want || of == 1) {
						t.Errorf("%+v, %+v: %+v is settled: %t", s, turn, at, got)
					}
				}
			}
		}
	}
}

func TestSettledOfMany(t *testing.T) {
	r := rand.New(rand.NewSource(2905))
	for _, s := range small(t) {
		for _, turn := range turns(s) {
			lane := r.Intn(s.Lanes)
			if !place.Settled(s, turn, lane) || !place.Settled(s, turn, lane, []place.Spot{}...) {
				t.Fatal("none are not settled")
			}
			for range 50 {
				room := make([]place.Spot, 8)
				for i := range room {
					room[i] = place.Spot{Lane: r.Intn(s.Lanes), Column: r.Intn(s.Columns)}
					if r.Intn(3) > 0 { // else hardly a list is settled
						room[i].Lane = lane
					}
				}
				kept := slices.Clone(room)
				for n := range len(room) + 1 { // what lies behind is not looked at
					want := !slices.ContainsFunc(kept[:n], func(at place.Spot) bool { return others(s, turn, lane, at) })
					if got := place.Settled(s, turn, lane, room[:n]...); got != want {
						t.Fatalf("%+v, %+v, lane %d: %+v are settled: %t", s, turn, lane, kept[:n], got)
					}
				}
				if !slices.Equal(room, kept) {
					t.Fatalf("%+v are changed to %+v", kept, room)
				}
			}
		}
	}
}

// TestSettledEach: one among many that isn't settled is told, wherever it is.
func TestSettledEach(t *testing.T) {
	s := shaped(t, api.Argon2id, 2, 80, 4)
	for turn, ok := (shape.Turn{}), true; ok; turn, ok = s.Next(turn) {
		for n := range 12 {
			l := make([]place.Spot, 12)
			for i := range l {
				l[i] = place.Spot{Lane: 2, Column: turn.Slice * 5}
			}
			if !place.Settled(s, turn, 2, l...) {
				t.Fatalf("%+v: the lane's own are not settled", turn)
			}
			l[n].Lane = n % 2
			if place.Settled(s, turn, 2, l...) {
				t.Fatalf("%+v: place %d is settled", turn, n)
			}
			l[n].Column = (l[n].Column + 5) % 20
			if !place.Settled(s, turn, 2, l...) {
				t.Fatalf("%+v: place %d is not settled", turn, n)
			}
		}
	}
}

// P29.5

// follows tells of a block that is told, but isn't settled, isn't one of the shape's, is the one that refers, or wasn't filled ahead of it in the first pass.
func follows(t *testing.T, s shape.Shape, turn shape.Turn, lane, index int, j1, j2 uint32) {
	t.Helper()
	at, e := place.Of(s, turn, lane, index, j1, j2)
	if e != api.OK {
		t.Fatalf("%+v, %+v, lane %d, index %d: %d", s, turn, lane, index, e)
	}
	here := place.Spot{Lane: lane, Column: turn.Slice*s.Segment + index}
	faults := map[string]bool{
		"not settled":         !place.Settled(s, turn, lane, at),
		"none of the shape's": at.Lane < 0 || at.Lane >= s.Lanes || at.Column < 0 || at.Column >= s.Columns,
		"itself":              at == here,
		"not filled":          turn.Pass == 0 && (at.Column >= here.Column || at.Lane != lane && at.Column/s.Segment >= turn.Slice),
		"the block ahead":     at.Lane == lane && at.Column == (here.Column+s.Columns-1)%s.Columns, // RFC 9106's own
	}
	for what, is := range faults {
		if is {
			t.Fatalf("%+v, %+v, lane %d, index %d, %d, %d: %+v is %s", s, turn, lane, index, j1, j2, at, what)
		}
	}
}

func TestFollows(t *testing.T) {
	r := rand.New(rand.NewSource(2906))
	for _, s := range append(small(t), great(t)...) {
		for _, turn := range turns(s) {
			for _, index := range indexes(s, turn) {
				for _, lane := range []int{0, r.Intn(s.Lanes), s.Lanes - 1} {
					for _, j1 := range []uint32{0, 1, r.Uint32(), r.Uint32(), 1 << 31, math.MaxUint32 - 1, math.MaxUint32} {
						for _, j2 := range []uint32{0, uint32(lane), r.Uint32(), r.Uint32(), math.MaxUint32} {
							follows(t, s, turn, lane, index, j1, j2)
						}
					}
				}
			}
		}
	}
}

// Known answers: keys of RFC 9106, and of other Argon2s, by blocks that refer to others by the calls of this layer.

// memory is Argon2's, as many blocks as its shape has.
type memory struct {
	shape.Shape
	blocks []api.Block
}

// numbers are the two by which a block refers to another one.
func (m *memory) numbers(turn shape.Turn, lane, index int) (uint32, uint32) {
	w := m.blocks[m.Place(lane, m.Before(m.Column(turn.Slice, index)))][0]
	if m.Kind() == 1 || m.Kind() == 2 && turn.Pass == 0 && turn.Slice < 2 {
		seed, _ := block.Of(uint64(turn.Pass), uint64(lane), uint64(turn.Slice), uint64(m.Blocks), uint64(m.Passes), uint64(m.Kind()), uint64(index/128+1))
		w = blend.Mix(api.Block{}, blend.Mix(api.Block{}, seed))[index%128]
	}
	return uint32(w), uint32(w >> 32)
}

// step fills one block; false: it refers to one that isn't settled, or to none.
func (m *memory) step(turn shape.Turn, lane, index int) bool {
	j1, j2 := m.numbers(turn, lane, index)
	at, e := place.Of(m.Shape, turn, lane, index, j1, j2)
	column := m.Column(turn.Slice, index)
	here := &m.blocks[m.Place(lane, column)]
	old := *here
	if turn.Pass == 0 {
		old = api.Block{}
	}
	*here = blend.Over(m.blocks[m.Place(lane, m.Before(column))], m.blocks[m.Place(at.Lane, at.Column)], old)
	return e == api.OK && place.Settled(m.Shape, turn, lane, at)
}

// fill has all blocks filled, turn by turn, the lanes in any order, one going on while another one rests.
func (m *memory) fill(t *testing.T, r *rand.Rand) {
	for turn, ok := (shape.Turn{}), true; ok; turn, ok = m.Next(turn) {
		var whose []int
		next := make([]int, m.Lanes)
		for lane := range next {
			next[lane] = m.First(turn.Pass, turn.Slice)
			whose = append(whose, slices.Repeat([]int{lane}, m.Segment-next[lane])...)
		}
		r.Shuffle(len(whose), func(i, k int) { whose[i], whose[k] = whose[k], whose[i] })
		for _, lane := range whose {
			if !m.step(turn, lane, next[lane]) {
				t.Fatalf("%+v, %+v: lane %d at index %d refers to none that is settled", m.Shape, turn, lane, next[lane])
			}
			next[lane]++
		}
	}
}

// counted are numbers as bytes, the lowest one of each first.
func counted(l ...int) string {
	var b []byte
	for _, n := range l {
		b = binary.LittleEndian.AppendUint32(b, uint32(n))
	}
	return string(b)
}

// tag is Argon2's.
func tag(t *testing.T, p api.Params, r *rand.Rand, texts ...string) string {
	t.Helper()
	s, e := shape.Of(p)
	if e != api.OK {
		t.Fatal(e)
	}
	input := counted(p.Lanes, p.Size, p.Memory, p.Time, 0x13, s.Kind())
	for _, text := range texts {
		input += counted(len(text)) + text
	}
	head, _ := blake.Of(64, "", input)
	m := &memory{s, make([]api.Block, s.Blocks)}
	for lane := range s.Lanes {
		for k := range 2 {
			m.blocks[s.Place(lane, k)], _ = block.From(long.Block(head, counted(k, lane)))
		}
	}
	m.fill(t, r)
	var end api.Block
	for lane := range s.Lanes {
		end = block.Xor(end, m.blocks[s.Place(lane, s.Columns-1)])
	}
	sum, _ := long.Long(p.Size, block.Bytes(end))
	return hex.EncodeToString([]byte(sum))
}

func TestKnown(t *testing.T) {
	r := rand.New(rand.NewSource(2907))
	rfc := []string{strings.Repeat("\x01", 32), strings.Repeat("\x02", 16), strings.Repeat("\x03", 8), strings.Repeat("\x04", 12)}
	plain := []string{"password", "somesalt", "", ""}
	for _, c := range []struct {
		texts                    []string
		alg, time, memory, lanes int
		want                     string
	}{
		{rfc, api.Argon2d, 3, 32, 4, "512b391b6f1162975371d30919734294f868e3be3984f3c1a13a4db9fabe4acb"},
		{rfc, api.Argon2i, 3, 32, 4, "c814d9d1dc7f37aa13f0d77f2494bda1c8de6b016dd388d29952a4c4672b6ce8"},
		{rfc, api.Argon2id, 3, 32, 4, "0d640df58d78766c08c037a34a8b53c9d01ef0452d75b65eb52520e96b01e659"},
		{plain, api.Argon2d, 1, 8, 1, "c519e603ac603ec1aeb5b71ec44a6179e3f3975b14c0c97e3914c79e6363e178"},
		{plain, api.Argon2id, 2, 16, 2, "747d7631b182faf749d7efc31aec31df4ecfe3b57c792f53800ac2c9978b4888"},
		{plain, api.Argon2d, 3, 100, 3, "f767c942db6c971938c4f3e8d81e53a743aa8accc88708a2"},
		{plain, api.Argon2i, 5, 64, 8, "b5656a6c8d8a360411f5160205d26cdfa00caec5b7d60f57c4328a20d13cc4ed"},
		{plain, api.Argon2d, 2, 4096, 4, "9e0b7cb9e7f2aa22e0a9eab6869e3cff"},
		{plain, api.Argon2id, 2, 4096, 4, "8c5fa56b4c434c275d2960b846371738"},
		{plain, api.Argon2i, 1, 1024, 1, "62a4cb65c257551be4c2c22efba26b3317e4d912e004dcc20481fee0eb9b014b1aedacb695c4c3a18cb9b561e33dec764adad1a7d5b8451e06a669169af035ba"},
	} {
		p := api.Params{Alg: c.alg, Time: c.time, Memory: c.memory, Lanes: c.lanes, Size: len(c.want) / 2}
		for range 2 {
			if got := tag(t, p, r, c.texts...); got != c.want {
				t.Errorf("%+v: %s, not %s", p, got, c.want)
			}
		}
	}
}

// TestSameAgain: what was asked ahead is not kept.
func TestSameAgain(t *testing.T) {
	s := shaped(t, api.Argon2id, 3, 80, 4)
	first, _ := place.Of(s, shape.Turn{Pass: 1, Slice: 2}, 1, 3, 1<<31, 2)
	place.Of(shaped(t, api.Argon2d, 1, 8, 1), shape.Turn{Slice: 3}, 0, 1, 5, 5)
	place.Of(s, shape.Turn{Pass: 9}, 1, 3, 0, 0)
	if again, e := place.Of(s, shape.Turn{Pass: 1, Slice: 2}, 1, 3, 1<<31, 2); again != first || e != api.OK {
		t.Errorf("%+v, %d the second time, not %+v", again, e, first)
	}
}
