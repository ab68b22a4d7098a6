package address_test

import (
	"crypto/sha256"
	"encoding/binary"
	"encoding/hex"
	"math"
	"math/big"
	"math/rand"
	"slices"
	"strings"
	"testing"

	"pestle/address"
	"pestle/api"
	"pestle/blake"
	"pestle/blend"
	"pestle/block"
	"pestle/long"
	"pestle/place"
	"pestle/shape"
)

// shaped is the shape of parameters.
func shaped(t *testing.T, alg, passes, memory, lanes int) shape.Shape {
	t.Helper()
	s, e := shape.Of(api.Params{Alg: alg, Time: passes, Memory: memory, Lanes: lanes, Size: 32})
	if e != api.OK {
		t.Fatalf("no shape of %d passes, %d blocks, %d lanes: %d", passes, memory, lanes, e)
	}
	return s
}

// some are shapes of each algorithm: the least one, some with memory that isn't used, and those at the parameters' edges.
func some(t *testing.T) []shape.Shape {
	var l []shape.Shape
	for _, alg := range []int{api.Argon2d, api.Argon2i, api.Argon2id} {
		l = append(l,
			shaped(t, alg, 1, 8, 1),
			shaped(t, alg, 3, 37, 2),
			shaped(t, alg, 4, 100, 3),
			shaped(t, alg, 2, 4096, 4),
			shaped(t, alg, 1<<32-1, 1<<32-1, 1),
			shaped(t, alg, 1<<32-1, 1<<32-1, 1<<24-1),
			shaped(t, alg, 1, 8*(1<<24-1), 1<<24-1),
		)
	}
	return l
}

// far are numbers beyond all that a turn, a lane or a counter may be, and at the edges of their kind.
func far() []int {
	return []int{math.MinInt, math.MinInt + 1, -1 << 62, -1<<32 - 1, -1 << 32, -1<<32 + 1, -1 << 31, -129, -128, -5, -4, -3, -2, -1, 1<<31 - 1, 1 << 31, 1<<32 - 1, 1 << 32, 1<<32 + 1, 1<<32 + 2, 1 << 62, math.MaxInt - 1, math.MaxInt}
}

// segment is a turn and a lane.
type segment struct {
	shape.Turn
	lane int
}

// segments are some of a shape's, at the edges, and some that it hasn't.
func segments(s shape.Shape) []segment {
	var l []segment
	for _, pass := range []int{0, 1, s.Passes - 1, s.Passes, -1} {
		for slice := range 4 {
			for _, lane := range []int{0, 1, s.Lanes - 1} {
				l = append(l, segment{shape.Turn{Pass: pass, Slice: slice}, lane})
			}
		}
	}
	return append(l,
		segment{shape.Turn{Pass: 0, Slice: 4}, 0},
		segment{shape.Turn{Pass: math.MinInt, Slice: math.MaxInt}, -7},
		segment{shape.Turn{Pass: 1 << 32, Slice: -1 << 32}, math.MaxInt})
}

// halved is a word as its lower and its higher half, reckoned without a bound.
func halved(w uint64) [2]uint32 {
	high, low := new(big.Int).DivMod(new(big.Int).SetUint64(w), big.NewInt(1<<32), new(big.Int))
	return [2]uint32{uint32(low.Uint64()), uint32(high.Uint64())}
}

// seeded is the first words of a seed, as numbers without a bound, modulo 2^64.
func seeded(kind, blocks, passes int, of segment, counter int) []uint64 {
	var l []uint64
	for _, n := range []int{of.Pass, of.lane, of.Slice, blocks, passes, kind, counter} {
		l = append(l, new(big.Int).Mod(big.NewInt(int64(n)), new(big.Int).Lsh(big.NewInt(1), 64)).Uint64())
	}
	return l
}

// made is a block of addresses, by the document's steps.
func made(s shape.Shape, of segment, counter int) api.Block {
	kind := map[int]int{api.Argon2d: 0, api.Argon2i: 1, api.Argon2id: 2}[s.Alg]
	var seed, zero api.Block
	copy(seed[:], seeded(kind, s.Blocks, s.Passes, of, counter))
	return blend.Mix(zero, blend.Mix(zero, seed))
}

func TestEach(t *testing.T) {
	for _, n := range []int{128, len(api.Block{}), block.Words} {
		if address.Each != n {
			t.Error(address.Each, n)
		}
	}
}

// P30.1

func TestFreeKnown(t *testing.T) {
	for _, c := range []struct {
		alg, pass, slice int
		want             bool
	}{
		{api.Argon2d, 0, 0, false},
		{api.Argon2d, 0, 1, false},
		{api.Argon2d, 0, 3, false},
		{api.Argon2d, 2, 1, false},
		{api.Argon2i, 0, 0, true},
		{api.Argon2i, 0, 1, true},
		{api.Argon2i, 0, 2, true},
		{api.Argon2i, 0, 3, true},
		{api.Argon2i, 1, 0, true},
		{api.Argon2i, 2, 3, true},
		{api.Argon2id, 0, 0, true},
		{api.Argon2id, 0, 1, true},
		{api.Argon2id, 0, 2, false},
		{api.Argon2id, 0, 3, false},
		{api.Argon2id, 1, 0, false},
		{api.Argon2id, 1, 1, false},
		{api.Argon2id, 2, 0, false},
		{api.Argon2id, 2, 3, false},
	} {
		s := shaped(t, c.alg, 3, 32, 4)
		if got := address.Free(s, shape.Turn{Pass: c.pass, Slice: c.slice}); got != c.want {
			t.Errorf("%+v: %t", c, got)
		}
	}
}

// TestFree: of all shapes, of turns that there are, and of others.
func TestFree(t *testing.T) {
	l := append(far(), 0, 1, 2, 3, 4, 5, 8)
	for _, s := range some(t) {
		for _, pass := range append(l, s.Passes-1, s.Passes) {
			for _, slice := range l {
				turn := shape.Turn{Pass: pass, Slice: slice}
				want := s.Alg == 2 || s.Alg == 3 && (turn == shape.Turn{} || turn == shape.Turn{Slice: 1})
				if got := address.Free(s, turn); got != want {
					t.Fatalf("%+v, %+v: %t", s, turn, got)
				}
			}
		}
	}
}

func TestWords(t *testing.T) {
	for _, c := range []struct {
		w         uint64
		low, high uint32
	}{
		{0, 0, 0},
		{1, 1, 0},
		{1 << 31, 1 << 31, 0},
		{1 << 32, 0, 1},
		{1<<32 - 1, math.MaxUint32, 0},
		{1<<32 + 2, 2, 1},
		{1 << 63, 0, 1 << 31},
		{0x0102030405060708, 0x05060708, 0x01020304},
		{0xfedcba9876543210, 0x76543210, 0xfedcba98},
		{0xffffffff00000000, 0, math.MaxUint32},
		{math.MaxUint64, math.MaxUint32, math.MaxUint32},
	} {
		if low, high := address.Words(c.w); low != c.low || high != c.high {
			t.Errorf("Words(%x): %x, %x", c.w, low, high)
		}
	}
	r := rand.New(rand.NewSource(3001))
	for n := range 2000 {
		w := r.Uint64()
		if n < 64 {
			w = 1 << n
		}
		if low, high := address.Words(w); [2]uint32{low, high} != halved(w) {
			t.Errorf("Words(%x): %x, %x", w, low, high)
		}
	}
}

// P30.2

func TestSeedKnown(t *testing.T) {
	for _, c := range []struct {
		alg, passes, memory, lanes   int
		pass, slice, lane, counter   int
		first, blocks, all, at, kind uint64
	}{
		{api.Argon2i, 1, 8, 1, 0, 0, 0, 1, 0, 8, 1, 0, 1},
		{api.Argon2id, 3, 37, 2, 2, 3, 1, 9, 2, 32, 3, 3, 2}, // five blocks aren't used
		{api.Argon2d, 5, 100, 3, 4, 1, 2, 7, 4, 96, 5, 1, 0},
		{api.Argon2i, 1<<32 - 1, 1<<32 - 1, 1<<24 - 1, 1<<32 - 2, 2, 1<<24 - 2, 1 << 56, 1<<32 - 2, 64 * (1<<26 - 4), 1<<32 - 1, 2, 1},
	} {
		s := shaped(t, c.alg, c.passes, c.memory, c.lanes)
		want := api.Block{c.first, uint64(c.lane), c.at, c.blocks, c.all, c.kind, uint64(c.counter)}
		if got := address.Seed(s, shape.Turn{Pass: c.pass, Slice: c.slice}, c.lane, c.counter); got != want {
			t.Errorf("%+v: %x", c, got[:8])
		}
	}
}

// TestSeedModulo: numbers below 0 are taken modulo 2^64, and none is cut.
func TestSeedModulo(t *testing.T) {
	s := shaped(t, api.Argon2id, 3, 37, 2)
	got := address.Seed(s, shape.Turn{Pass: -1, Slice: -2}, -3, math.MinInt)
	want := api.Block{math.MaxUint64, math.MaxUint64 - 2, math.MaxUint64 - 1, 32, 3, 2, 1 << 63}
	if got != want {
		t.Errorf("%x", got[:8])
	}
	got = address.Seed(s, shape.Turn{Pass: 1 << 32, Slice: math.MaxInt}, math.MinInt+1, 1<<33+5)
	want = api.Block{1 << 32, 1<<63 + 1, 1<<63 - 1, 32, 3, 2, 1<<33 + 5}
	if got != want {
		t.Errorf("%x", got[:8])
	}
}

// counters are some of blocks of addresses, and some that no index has.
func counters() []int { return append(far(), 0, 1, 2, 3, 127, 128, 129, 1<<25, 1<<56) }

func TestSeed(t *testing.T) {
	for _, s := range some(t) {
		kind := s.Alg - api.Argon2d
		for _, of := range segments(s) {
			for _, counter := range counters() {
				got := address.Seed(s, of.Turn, of.lane, counter)
				if want := seeded(kind, s.Blocks, s.Passes, of, counter); !slices.Equal(got[:7], want) {
					t.Fatalf("%+v, %+v, counter %d: %x, not %x", s, of, counter, got[:7], want)
				}
				if !slices.Equal(got[7:], make([]uint64, 121)) {
					t.Fatalf("%+v, %+v, counter %d: the end is %x", s, of, counter, got[7:])
				}
			}
		}
	}
}

// TestSeedOfTheRest: lanes, memory, columns and the tag's size are none of a seed's words.
func TestSeedOfTheRest(t *testing.T) {
	turn := shape.Turn{Pass: 1, Slice: 2}
	l := []shape.Shape{shaped(t, api.Argon2i, 3, 96, 1), shaped(t, api.Argon2i, 3, 97, 3), shaped(t, api.Argon2i, 3, 99, 12)}
	other, _ := shape.Of(api.Params{Alg: api.Argon2i, Time: 3, Memory: 98, Lanes: 2, Size: 64})
	for _, s := range append(l, other) {
		if address.Seed(s, turn, 1, 5) != address.Seed(l[0], turn, 1, 5) || address.Block(s, turn, 1, 5) != address.Block(l[0], turn, 1, 5) {
			t.Errorf("%+v counts", s)
		}
	}
}

// TestBlockKnown: blocks of another Argon2, by two words and SHA-256 of their bytes.
func TestBlockKnown(t *testing.T) {
	for _, c := range []struct {
		alg, passes, memory, lanes int
		pass, slice, lane, counter int
		first, last                uint64
		sum                        string
	}{
		{api.Argon2i, 1, 8, 1, 0, 0, 0, 1, 0x8539c16e467d1168, 0xe913d48513aa4965, "257e72b2dc965d7b702f5d871c5012ae91679811487b58a738e7758b3afdc796"},
		{api.Argon2i, 1, 8, 1, 0, 3, 0, 1, 0x2fa1ccfe98909c8b, 0xdc256da6c5b96ff1, "77a18b3f6b9dde1ca3576ab05f9e5bccbe22b87dcb7e6a7b61eebfdb55c55fad"},
		{api.Argon2i, 3, 32, 4, 0, 0, 0, 1, 0xd66f57259d654b1b, 0x9e16e7accfc9e85d, "036e178e26eb12bf6c21ae33915a01ecd4fa011fa8e3d47db8956726a882e5cf"},
		{api.Argon2i, 3, 32, 4, 2, 3, 3, 1, 0x65cad3c15ab6d1da, 0x7cec393d398ed7bc, "fdb79eeebf525688eb0fdab0c149b3a622f8283a97abaaa2762225ce936b49db"},
		{api.Argon2i, 3, 32, 4, 1, 2, 0, 2, 0xbdaeed48938d1247, 0x880e76fed5b8230d, "6f86c2282e1c4b0ba353cc1a2a7fb45e09d66f061f5777e0fac614bfe3ea5752"},
		{api.Argon2id, 3, 37, 2, 0, 0, 0, 1, 0x540132317457073a, 0x7edf5653c4fe3005, "718a34711674019d466db52bc0f624cb4383d1e4feadcb3a1aea2cf1dfe4f0e4"},
		{api.Argon2id, 3, 37, 2, 0, 1, 1, 1, 0x3e469ddb9ea68c0c, 0xd8fc40735bef78b0, "02e4cd93e1797dd32ac3b0e8550ead4b56375c363e4791968dbf8413da07326c"},
		{api.Argon2id, 2, 4096, 4, 0, 1, 3, 1, 0xe1433789d0be0e1f, 0x2b24d243a9d50d0d, "681fca250fa6b60630170e9775ce3a495dc70212228ac91f4da24082b3f33f9e"},
		{api.Argon2id, 2, 4096, 4, 0, 1, 3, 2, 0x0cd4040583743433, 0x87a89c3fe7048862, "c7a126146baba8f1c4baecf281a93c5b766ad05f1313efd2ff8a54876198838a"},
		{api.Argon2id, 2, 4096, 4, 1, 2, 0, 9, 0x8a4d93b6295a80f5, 0x9a4686dc348824e2, "4db67ae4a1df802211429c7c137542358d8349de0275d26267e90e5c60b51ae4"},
		{api.Argon2d, 5, 100, 3, 4, 2, 1, 3, 0xd6d80bba879465ac, 0x1f75d29143d4ea3f, "3e1d200dea30f12545d05243519b406e52d8fb25d8802ccf9a05e2b250346a2a"},
		{api.Argon2i, 1<<32 - 1, 1<<32 - 1, 1<<24 - 1, 1<<32 - 2, 3, 1<<24 - 2, 1, 0x3b6b13559bf613bc, 0x50549963d49cf782, "a2c57164002bb36f44e86c0f38badc56bb72dd694978821cfa306a3170ee89bc"},
		{api.Argon2id, 1<<32 - 1, 1<<32 - 1, 1, 0, 1, 0, 1 << 23, 0x2792bcbd655d44c9, 0x33e9028348a7d2b3, "f1768107ebef4a7f2b82222a6e9d13c7b5b5a4627c0a6f912cda82ce40dd3ac3"},
		{api.Argon2id, 1<<32 - 1, 1<<32 - 1, 1, 1<<32 - 2, 0, 0, 1 << 56, 0xf3e4be1511c46be5, 0x45f918384b4f575d, "5eec24b83f1df52985e60883fe1229a0090d0209eca0bdaaa186bcfd96bacd7b"},
		{api.Argon2i, 3, 32, 4, 0, 0, 0, 0, 0xef313cb5faf1300e, 0x006cfe3030d497b3, "d1017b3cf4c3eff9dbc35f2a352475c728d7209e806151506793638fec346338"},
		{api.Argon2i, 3, 32, 4, -1, -2, -3, -4, 0xdc8a254997516d76, 0x2adbe848240ed556, "75901fa5a9c563c0da38510bbd5c49c0630a2c0a68ee4ddaa8b601a31ee72fcb"},
		{api.Argon2id, 3, 37, 2, math.MinInt, math.MaxInt, 1 << 62, math.MinInt, 0xd66c4e5ca2ea8f4f, 0xb0348868949a5078, "d8741c2dc8aa3dd78500dd4ecc96d7ba954a82789b649799acc2c25944271b63"},
		{api.Argon2i, 1, 8, 1, math.MaxInt, math.MinInt, -1, math.MaxInt, 0x800e9cb5f3c80847, 0x0ee620b358ae47c8, "8e6fb85d182164dfeadf821c8e825ce374dab53916d1ccbff0bc7823391fefa2"},
	} {
		s := shaped(t, c.alg, c.passes, c.memory, c.lanes)
		b := address.Block(s, shape.Turn{Pass: c.pass, Slice: c.slice}, c.lane, c.counter)
		var l []byte
		for _, w := range b {
			l = binary.LittleEndian.AppendUint64(l, w)
		}
		sum := sha256.Sum256(l)
		if b[0] != c.first || b[127] != c.last || hex.EncodeToString(sum[:]) != c.sum {
			t.Errorf("%+v: %x, %x, %x", c, b[0], b[127], sum)
		}
	}
}

func TestBlock(t *testing.T) {
	for _, s := range some(t) {
		for n, of := range segments(s) {
			for _, counter := range append(counters()[n%3:n%3+3], 1, 2, 3+n) {
				if got, want := address.Block(s, of.Turn, of.lane, counter), made(s, of, counter); got != want {
					t.Fatalf("%+v, %+v, counter %d: %x, not %x", s, of, counter, got, want)
				}
			}
		}
	}
}

// P30.3

// atIs tells of an index whose numbers are others than the document's, or of another block behind it.
func atIs(t *testing.T, x *address.Source, s shape.Shape, of segment, index int) {
	t.Helper()
	w := halved(made(s, of, index/128+1)[index%128])
	if low, high := x.At(index); [2]uint32{low, high} != w {
		t.Fatalf("%+v, %+v, index %d: %x, %x, not %x", s, of, index, low, high, w)
	}
	if got := x.Made(); got != index/128+1 {
		t.Fatalf("%+v, %+v, index %d: block %d is the last one", s, of, index, got)
	}
}

// TestAtKnown: the edges between blocks, by words of another Argon2.
func TestAtKnown(t *testing.T) {
	s := shaped(t, api.Argon2id, 2, 4096, 4)
	x := address.New(s, shape.Turn{Slice: 1}, 3)
	if x.Made() != 0 {
		t.Errorf("ahead of all: %d", x.Made())
	}
	for _, c := range []struct {
		index     int
		low, high uint32
		made      int
	}{
		{0, 0xd0be0e1f, 0xe1433789, 1},
		{127, 0xa9d50d0d, 0x2b24d243, 1},
		{128, 0x83743433, 0x0cd40405, 2},
		{255, 0xe7048862, 0x87a89c3f, 2},
		{127, 0xa9d50d0d, 0x2b24d243, 1},
	} {
		low, high := x.At(c.index)
		if low != c.low || high != c.high || x.Made() != c.made {
			t.Errorf("At(%d): %x, %x, of block %d", c.index, low, high, x.Made())
		}
	}
}

// TestAt: all indexes of a segment of some blocks, and behind it.
func TestAt(t *testing.T) {
	for _, s := range some(t) {
		for n, of := range segments(s) {
			x := address.New(s, of.Turn, of.lane)
			if x == nil || x.Made() != 0 {
				t.Fatalf("%+v, %+v: block %d is the last one ahead of all", s, of, x.Made())
			}
			for index := 0; index < 400; index += 1 + n*7%31 {
				atIs(t, x, s, of, index)
			}
		}
	}
}

// TestAtGreat: indexes at the edges of great shapes, and of numbers.
func TestAtGreat(t *testing.T) {
	for _, s := range some(t) {
		for _, of := range segments(s)[:4] {
			x := address.New(s, of.Turn, of.lane)
			for _, index := range []int{s.Segment - 1, s.Segment, 1<<30 - 1, 1 << 30, 1<<32 - 1, 1 << 32, 1<<38 + 5, 1<<39 - 1, 1 << 62, math.MaxInt - 128, math.MaxInt - 127, math.MaxInt - 1, math.MaxInt} {
				atIs(t, x, s, of, index)
			}
		}
	}
}

// TestAtBelow: below 0 there is nothing, and no block is looked at.
func TestAtBelow(t *testing.T) {
	s, of := shaped(t, api.Argon2i, 3, 2100, 2), segment{shape.Turn{Pass: 1, Slice: 2}, 1}
	x := address.New(s, of.Turn, of.lane)
	none := func(was int) {
		t.Helper()
		for _, index := range []int{-1, -2, -127, -128, -129, -256, -1 << 31, -1 << 32, -1<<32 + 1, -1 << 62, math.MinInt, math.MinInt + 1, math.MinInt + 127, math.MinInt + 128} {
			if low, high := x.At(index); low != 0 || high != 0 || x.Made() != was {
				t.Fatalf("At(%d): %x, %x; block %d, not %d", index, low, high, x.Made(), was)
			}
		}
	}
	none(0)
	for _, index := range []int{5, 300, 0, 128, 127, 1 << 40} {
		atIs(t, x, s, of, index)
		none(index/128 + 1)
		atIs(t, x, s, of, index)
	}
}

func TestNil(t *testing.T) {
	var x *address.Source
	for _, index := range append(far(), 0, 1, 127, 128) {
		if low, high := x.At(index); low != 0 || high != 0 || x.Made() != 0 {
			t.Errorf("At(%d) of nil: %x, %x, block %d", index, low, high, x.Made())
		}
	}
}

// TestMade: telling it changes nothing.
func TestMade(t *testing.T) {
	s := shaped(t, api.Argon2i, 1, 4096, 1)
	x := address.New(s, shape.Turn{}, 0)
	for _, c := range []struct{ index, made int }{{2, 1}, {126, 1}, {127, 1}, {128, 2}, {256, 3}, {1023, 8}, {0, 1}, {512, 5}, {511, 4}} {
		atIs(t, x, s, segment{}, c.index)
		for range 3 {
			if x.Made() != c.made {
				t.Errorf("behind index %d: %d", c.index, x.Made())
			}
		}
	}
}

// TestEnds: of shapes, and a source, that nobody made, each call ends.
func TestEnds(t *testing.T) {
	r := rand.New(rand.NewSource(3002))
	l := append(far(), 0, 1, 2, 3, 4, 8)
	any := func() int { return l[r.Intn(len(l))] }
	for range 3000 {
		s := shape.Shape{Alg: any(), Passes: any(), Lanes: any(), Memory: any(), Blocks: any(), Columns: any(), Segment: any(), Size: any()}
		turn := shape.Turn{Pass: any(), Slice: any()}
		address.Free(s, turn)
		address.Seed(s, turn, any(), any())
		address.Block(s, turn, any(), any())
		x := address.New(s, turn, any())
		x.At(any())
		x.Made()
	}
	for _, x := range []*address.Source{{}, new(address.Source), address.New(shape.Shape{}, shape.Turn{}, 0)} {
		for _, index := range l {
			x.At(index)
			x.Made()
		}
	}
}

// P30.4

// TestAnyOrder: rising, falling, and any order, of some sources by turns, come to the same.
func TestAnyOrder(t *testing.T) {
	r := rand.New(rand.NewSource(3003))
	s := shaped(t, api.Argon2id, 3, 6100, 2)
	var l []segment
	var sources, rising []*address.Source
	for pass := range 3 {
		for slice := range 4 {
			of := segment{shape.Turn{Pass: pass, Slice: slice}, r.Intn(2)}
			l = append(l, of)
			sources = append(sources, address.New(s, of.Turn, of.lane))
			rising = append(rising, address.New(s, of.Turn, of.lane))
		}
	}
	want := make([][][2]uint32, len(l))
	for i, x := range rising {
		for index := range s.Segment {
			low, high := x.At(index)
			want[i] = append(want[i], [2]uint32{low, high})
		}
	}
	same := func(i, index int) {
		t.Helper()
		low, high := sources[i].At(index)
		if [2]uint32{low, high} != want[i][index] {
			t.Fatalf("%+v, index %d: %x, %x, not %x", l[i], index, low, high, want[i][index])
		}
	}
	for i := range l {
		for index := s.Segment - 1; index >= 0; index-- {
			same(i, index)
		}
	}
	for range 20000 {
		same(r.Intn(len(l)), r.Intn(s.Segment))
	}
	for i, of := range l {
		for range 20 {
			atIs(t, sources[i], s, of, r.Intn(s.Segment))
		}
	}
}

// TestAlone: two sources of one segment are told apart, and go on by themselves.
func TestAlone(t *testing.T) {
	s, of := shaped(t, api.Argon2i, 2, 2100, 2), segment{shape.Turn{Slice: 3}, 1}
	x, y := address.New(s, of.Turn, of.lane), address.New(s, of.Turn, of.lane)
	if x == y {
		t.Fatal("both are one")
	}
	x.At(200)
	if x.Made() != 2 || y.Made() != 0 {
		t.Errorf("blocks %d, %d", x.Made(), y.Made())
	}
	y.At(3)
	if x.Made() != 2 || y.Made() != 1 {
		t.Errorf("blocks %d, %d", x.Made(), y.Made())
	}
	atIs(t, y, s, of, 200)
	atIs(t, x, s, of, 200)
}

// Known answers: tags of RFC 9106, and of other Argon2s, whose blocks refer by the addresses of this layer.

// memory is Argon2's, as many blocks as its shape has.
type memory struct {
	shape.Shape
	blocks []api.Block
}

// numbers are the two by which a block refers to another one.
func (m *memory) numbers(turn shape.Turn, lane, index int, x *address.Source) (uint32, uint32) {
	if address.Free(m.Shape, turn) {
		return x.At(index)
	}
	return address.Words(m.blocks[m.Place(lane, m.Before(m.Column(turn.Slice, index)))][0])
}

// step fills one block.
func (m *memory) step(t *testing.T, turn shape.Turn, lane, index int, x *address.Source) {
	j1, j2 := m.numbers(turn, lane, index, x)
	at, e := place.Of(m.Shape, turn, lane, index, j1, j2)
	if e != api.OK {
		t.Fatalf("%+v, %+v: lane %d at index %d refers to none: %d", m.Shape, turn, lane, index, e)
	}
	column := m.Column(turn.Slice, index)
	here := &m.blocks[m.Place(lane, column)]
	old := *here
	if turn.Pass == 0 {
		old = api.Block{}
	}
	*here = blend.Over(m.blocks[m.Place(lane, m.Before(column))], m.blocks[m.Place(at.Lane, at.Column)], old)
}

// fill has all blocks filled, turn by turn, the lanes in any order, one going on while another one rests.
func (m *memory) fill(t *testing.T, r *rand.Rand) {
	for turn, ok := (shape.Turn{}), true; ok; turn, ok = m.Next(turn) {
		var whose []int
		var sources []*address.Source
		next := make([]int, m.Lanes)
		for lane := range next {
			next[lane] = m.First(turn.Pass, turn.Slice)
			sources = append(sources, address.New(m.Shape, turn, lane))
			whose = append(whose, slices.Repeat([]int{lane}, m.Segment-next[lane])...)
		}
		r.Shuffle(len(whose), func(i, k int) { whose[i], whose[k] = whose[k], whose[i] })
		for _, lane := range whose {
			m.step(t, turn, lane, next[lane], sources[lane])
			next[lane]++
		}
	}
}

// counted are numbers as bytes, the lowest one of each first.
func counted(l ...int) string {
	var b []byte
	for _, n := range l {
		b = binary.LittleEndian.AppendUint32(b, uint32(n))
	}
	return string(b)
}

// tag is Argon2's.
func tag(t *testing.T, p api.Params, r *rand.Rand, texts ...string) string {
	t.Helper()
	s, e := shape.Of(p)
	if e != api.OK {
		t.Fatal(e)
	}
	input := counted(p.Lanes, p.Size, p.Memory, p.Time, 0x13, s.Kind())
	for _, text := range texts {
		input += counted(len(text)) + text
	}
	head, _ := blake.Of(64, "", input)
	m := &memory{s, make([]api.Block, s.Blocks)}
	for lane := range s.Lanes {
		for k := range 2 {
			m.blocks[s.Place(lane, k)], _ = block.From(long.Block(head, counted(k, lane)))
		}
	}
	m.fill(t, r)
	var end api.Block
	for lane := range s.Lanes {
		end = block.Xor(end, m.blocks[s.Place(lane, s.Columns-1)])
	}
	sum, _ := long.Long(p.Size, block.Bytes(end))
	return hex.EncodeToString([]byte(sum))
}

func TestKnown(t *testing.T) {
	r := rand.New(rand.NewSource(3004))
	rfc := []string{strings.Repeat("\x01", 32), strings.Repeat("\x02", 16), strings.Repeat("\x03", 8), strings.Repeat("\x04", 12)}
	plain := []string{"password", "somesalt", "", ""}
	for _, c := range []struct {
		texts                    []string
		alg, time, memory, lanes int
		want                     string
	}{
		{rfc, api.Argon2d, 3, 32, 4, "512b391b6f1162975371d30919734294f868e3be3984f3c1a13a4db9fabe4acb"},
		{rfc, api.Argon2i, 3, 32, 4, "c814d9d1dc7f37aa13f0d77f2494bda1c8de6b016dd388d29952a4c4672b6ce8"},
		{rfc, api.Argon2id, 3, 32, 4, "0d640df58d78766c08c037a34a8b53c9d01ef0452d75b65eb52520e96b01e659"},
		{plain, api.Argon2i, 1, 8, 1, "800003017d703c74609c6c8d5dc3e08b"},
		{plain, api.Argon2i, 3, 16, 2, "788c01315f49749506256c0559c848757d7e6d5897b8c8b3"},
		{plain, api.Argon2i, 1, 512, 1, "f7aa230a096dd1ea43cd1f20392eacdb92566bef4ca505490174b14ab7b469b3"}, // a segment of just one block of addresses
		{plain, api.Argon2i, 1, 516, 1, "185f49e08ee0a0437d0ea896ada6203dccb1a1db4f6727539e3b89791f966080"}, // one address more
		{plain, api.Argon2i, 2, 520, 1, "172206ceba10b59b45e14548110de41ef859889d867f05ff73d06b776669a7d0"},
		{plain, api.Argon2i, 1, 1024, 1, "95466cc4f92f874954617eec0aa1195d22980abd625e5cac44763ae3a9cb6ab7"},
		{plain, api.Argon2i, 2, 1028, 1, "e8ff981af15b31ab91c253995b050296"},
		{plain, api.Argon2i, 3, 2100, 2, "1024d04a73bd3d82e278bde79b4b4c31ef039bf740413df86096fdd51c14beab"},
		{plain, api.Argon2i, 1, 6000, 3, "04ad0659d2f78398da6cf8f3dbf4daaa409cdc9b"},
		{plain, api.Argon2i, 2, 4096, 8, "b41f7b762c3f87427300aec915f0c9383b4906175006ce44a7d628d4ed8a3b60"},
		{plain, api.Argon2id, 1, 8, 1, "f73a73d271859d21ef45465da12bdf86"},
		{plain, api.Argon2id, 1, 512, 1, "bdcbce6edc016040ede85f37395796bc7d5b40a6d1c405c1d31f930e5ce62594"},
		{plain, api.Argon2id, 1, 516, 1, "02dfcd5e1d8896c074d638c95a1ea62875030781d39ad350a78bf8171687eb70"},
		{plain, api.Argon2id, 3, 700, 1, "adb432df78c246e32ab61c1ec692dcdc945f82b242e86a0d8296b80100299f2a"},
		{plain, api.Argon2id, 1, 2064, 4, "12a64135684145669720ddd9f044b930da2bac0de33c508d5ddd33831cc0cb89"},
		{plain, api.Argon2id, 2, 6001, 3, "fadc28da4490bf98efc39732a8e68af41e95e27ea5c26db9318973fc1f428f7e"},
		{plain, api.Argon2id, 4, 4096, 1, "9042500b2b74b7f251f959c20c1782dab89b5b3ab657653a288db5866664ef2cd6b82c888fd546e2873e3b8682956deab6979911c1b1bb2289b00b659f745b0e"},
		{plain, api.Argon2d, 2, 1032, 1, "8840536ce6bdc6cd41d8d1f618cf159fe68300da5bf700654f25ea58de76639e"},
		{plain, api.Argon2d, 1, 520, 2, "71fc932692b31dcf0f0f89188c64a302"},
	} {
		p := api.Params{Alg: c.alg, Time: c.time, Memory: c.memory, Lanes: c.lanes, Size: len(c.want) / 2}
		if got := tag(t, p, r, c.texts...); got != c.want {
			t.Errorf("%+v: %s, not %s", p, got, c.want)
		}
	}
}
