package romix_test

import (
	"bytes"
	"crypto/pbkdf2"
	"crypto/sha256"
	"encoding/binary"
	"encoding/hex"
	"math"
	"math/rand"
	"slices"
	"strings"
	"testing"

	"pestle/api"
	"pestle/arena"
	"pestle/romix"
	"pestle/salsa"
)

// none are widths that no row may have; of some of them 32 r wraps around to what another one has.
func none() []int {
	return []int{math.MinInt, math.MinInt + 1, math.MinInt + 8, -1 << 62, -1 << 59, -1 << 32, -513, -512, -2, -1, 0, 513, 514, 1024, 1 << 16, 1 << 31, 1 << 32, 1<<32 + 1, 1 << 58, 1 << 59, 1<<59 + 1, 1 << 60, 1<<62 + 1, math.MaxInt - 1, math.MaxInt}
}

// far are numbers of no row of any store; of some of them what a row's words are counted by wraps around to those of one.
func far() []int {
	return []int{math.MinInt, math.MinInt + 1, -1 << 62, -1 << 61, -1 << 59, -1 << 58, -1 << 32, -1 << 31, -3, -2, -1, 1 << 31, 1<<32 - 1, 1 << 32, 1<<32 + 1, 1 << 56, 1 << 58, 1<<58 + 1, 1 << 59, 1<<59 + 1, 1 << 60, 1 << 61, 1<<62 - 1, 1 << 62, 1<<62 + 1, math.MaxInt - 1, math.MaxInt}
}

// rig is a store, what it is made of, and what the piece's bytes are to be.
type rig struct {
	a     *arena.Arena
	p     *arena.Piece
	s     *romix.Store
	r     int
	bytes []byte
}

// made is a store of a width, of a piece of so many blocks, any words of which stand in them; another piece is lent ahead of it, and another one behind.
func made(t *testing.T, blocks, r int) *rig {
	t.Helper()
	a, e := arena.New(blocks + 10)
	if e != api.OK {
		t.Fatal(e)
	}
	var pieces []*arena.Piece
	for _, n := range []int{2, blocks, 3} {
		p, e := a.Reserve(n)
		if e != api.OK {
			t.Fatal(e)
		}
		pieces = append(pieces, p)
	}
	c := rand.New(rand.NewSource(int64(blocks*1000 + r)))
	x := &rig{a: a, p: pieces[1], r: r}
	for i := range blocks {
		var b api.Block
		for k := range b {
			b[k] = c.Uint64()
		}
		if e := x.p.Set(i, b); e != api.OK {
			t.Fatal(e)
		}
	}
	x.bytes = image(t, x.p)
	s, e := romix.New(x.p, r)
	if s == nil || e != api.OK {
		t.Fatalf("New of %d blocks, %d: %v, %d", blocks, r, s, e)
	}
	x.s = s
	t.Cleanup(func() {
		t.Helper()
		if a.Used() != blocks+5 && a.Used() != 5 || a.High() != blocks+5 || !pieces[0].Clean() || !pieces[2].Clean() {
			t.Error("the arena, or another piece of it, is changed")
		}
	})
	return x
}

// image is a piece's bytes, block by block, the lowest byte of each word first.
func image(t *testing.T, p *arena.Piece) []byte {
	t.Helper()
	var l []byte
	for i := range p.Len() {
		b, e := p.Get(i)
		if e != api.OK {
			t.Fatal(i, e)
		}
		for _, w := range b {
			l = binary.LittleEndian.AppendUint64(l, w)
		}
	}
	return l
}

// row is the bytes of a row as they are to be.
func (x *rig) row(k int) []byte { return x.bytes[128*x.r*k : 128*x.r*(k+1)] }

// rows is how many rows there are to be.
func (x *rig) rows() int { return len(x.bytes) / (128 * x.r) }

// stands tells of a piece whose bytes, or a store whose rows, are not as they are to be.
func (x *rig) stands(t *testing.T) {
	t.Helper()
	if !bytes.Equal(image(t, x.p), x.bytes) {
		t.Fatalf("r %d, %d blocks: the piece holds other bytes", x.r, x.p.Len())
	}
	if n := x.s.Rows(); n != x.rows() {
		t.Fatalf("r %d, %d blocks: %d rows, not %d", x.r, x.p.Len(), n, x.rows())
	}
	for k := range x.rows() {
		if l, e := x.s.Row(k); !slices.Equal(l, wordsOf(x.row(k))) || e != api.OK {
			t.Fatalf("r %d, %d blocks, row %d: other words, or %d", x.r, x.p.Len(), k, e)
		}
	}
}

// bytesOf is words, the lowest byte of each first.
func bytesOf(l []uint32) []byte {
	var b []byte
	for _, w := range l {
		b = binary.LittleEndian.AppendUint32(b, w)
	}
	return b
}

// wordsOf is the words that bytesOf makes the bytes of.
func wordsOf(b []byte) []uint32 {
	var l []uint32
	for ; len(b) > 0; b = b[4:] {
		l = append(l, binary.LittleEndian.Uint32(b))
	}
	return l
}

// chance is n words of any kind.
func chance(c *rand.Rand, n int) []uint32 {
	l := make([]uint32, n)
	for i := range l {
		l[i] = c.Uint32()
	}
	return l
}

// blockMix is what RFC 7914 makes of a row's bytes: blocks mixed one behind the other, then the even ones, then the odd ones.
func blockMix(t *testing.T, b []byte) []byte {
	t.Helper()
	x := slices.Clone(b[len(b)-64:])
	var even, odd []byte
	for i := 0; i < len(b); i += 64 {
		for k := range x {
			x[k] ^= b[i+k]
		}
		y, e := salsa.Bytes(x)
		if e != api.OK {
			t.Fatal(e)
		}
		x = y
		if i/64%2 == 0 {
			even = append(even, x...)
		} else {
			odd = append(odd, x...)
		}
	}
	return append(even, odd...)
}

// mix has the store mix a row, and the bytes that are to be be what RFC 7914 makes of them.
func (x *rig) mix(t *testing.T, k, log, first int) {
	t.Helper()
	if e := x.s.Mix(k, log, first); e != api.OK {
		t.Fatalf("r %d, %d blocks: Mix(%d, %d, %d): %d", x.r, x.p.Len(), k, log, first, e)
	}
	v := slices.Clone(x.row(k))
	for i := range 1 << log {
		copy(x.row(first+i), v)
		v = blockMix(t, v)
	}
	for range 1 << log {
		j := binary.LittleEndian.Uint64(v[len(v)-64:]) % (1 << log)
		v = slices.Clone(v)
		for i, b := range x.row(first + int(j)) {
			v[i] ^= b
		}
		v = blockMix(t, v)
	}
	copy(x.row(k), v)
}

// shapes are widths, and numbers of blocks, some of whose rows end amid a block.
func shapes() [][2]int {
	l := [][2]int{{1, 1}, {1, 5}, {2, 3}, {3, 1}, {3, 7}, {4, 4}, {5, 6}, {7, 9}, {8, 3}, {9, 11}, {11, 5}, {15, 8}, {16, 9}, {31, 13}, {63, 20}, {64, 17}, {65, 21}, {100, 60}, {255, 70}, {256, 70}, {511, 130}, {512, 130}, {512, 127}}
	return append(l, [2]int{8, 1}, [2]int{9, 1}, [2]int{512, 64}, [2]int{512, 63}, [2]int{1, 0}, [2]int{512, 0})
}

// P24.1

func TestRows(t *testing.T) {
	a, _ := arena.New(2000)
	for _, n := range []int{0, 1, 2, 3, 5, 8, 13, 63, 64, 65, 127, 128, 129, 1000} {
		p, e := a.Reserve(n)
		if e != api.OK {
			t.Fatal(e)
		}
		for r := 1; r <= 512; r++ {
			s, e := romix.New(p, r)
			if s == nil || e != api.OK {
				t.Fatalf("%d blocks, %d: %v, %d", n, r, s, e)
			}
			if rows := s.Rows(); rows != n*1024/(128*r) {
				t.Errorf("%d blocks, %d: %d rows", n, r, rows)
			}
		}
		a.Release(p)
	}
}

func TestRowsKnown(t *testing.T) {
	for _, c := range [][3]int{{1, 1, 8}, {1, 2, 4}, {1, 3, 2}, {1, 4, 2}, {1, 5, 1}, {1, 8, 1}, {1, 9, 0}, {3, 5, 4}, {3, 24, 1}, {3, 25, 0}, {63, 512, 0}, {64, 512, 1}, {127, 512, 1}, {128, 512, 2}} {
		if x := made(t, c[0], c[1]); x.s.Rows() != c[2] {
			t.Errorf("%d blocks, %d: %d rows, not %d", c[0], c[1], x.s.Rows(), c[2])
		}
	}
}

// TestNewRefused: that there is no piece is told ahead of a width that may not be.
func TestNewRefused(t *testing.T) {
	x := made(t, 3, 1)
	for _, r := range none() {
		if s, e := romix.New(x.p, r); s != nil || e != api.ErrParams {
			t.Errorf("%d: %v, %d", r, s, e)
		}
		if s, e := romix.New(nil, r); s != nil || e != api.ErrNone {
			t.Errorf("%d of none: %v, %d", r, s, e)
		}
	}
	for r := 1; r <= 512; r++ {
		if s, e := romix.New(nil, r); s != nil || e != api.ErrNone {
			t.Errorf("%d of none: %v, %d", r, s, e)
		}
	}
	x.stands(t)
}

// TestLayout: halves of the piece, block by block, are the rows' words; each word alone is where it is told.
func TestLayout(t *testing.T) {
	for _, c := range shapes() {
		x := made(t, c[1], c[0])
		x.stands(t)
	}
	for _, r := range []int{1, 3, 5, 9} {
		x := made(t, 3, r)
		for h := range 3 * 256 {
			for i := range 3 {
				x.p.Set(i, api.Block{})
			}
			x.p.At(h / 256)[h%256/2] = 0x01020304 << (h % 2 * 32)
			for k := range x.s.Rows() {
				want := make([]uint32, 32*r)
				if k == h/(32*r) {
					want[h%(32*r)] = 0x01020304
				}
				if l, e := x.s.Row(k); !slices.Equal(l, want) || e != api.OK {
					t.Fatalf("r %d, half %d, row %d: %x, %d", r, h, k, l, e)
				}
			}
		}
	}
}

// TestPromoted: the piece's own calls are the store's, and what is done by one is seen by the other.
func TestPromoted(t *testing.T) {
	x := made(t, 4, 3)
	if x.s.Piece != x.p || x.s.Len() != 4 || x.s.At(3) != x.p.At(3) || x.s.At(4) != nil || x.s.Clean() {
		t.Error("another piece")
	}
	if e := x.s.Set(1, api.Block{5, 1 << 63}); e != api.OK {
		t.Error(e)
	}
	if b, e := x.s.Get(1); b != (api.Block{5, 1 << 63}) || e != api.OK {
		t.Error(b, e)
	}
	x.s.At(2)[7] = 99
	x.bytes = image(t, x.p)
	x.stands(t)
	for i := range 4 {
		x.s.Set(i, api.Block{})
	}
	if !x.s.Clean() || !x.p.Clean() {
		t.Error("not clean")
	}
}

// TestTwoStores: stores of one piece, of unlike widths, have the same words.
func TestTwoStores(t *testing.T) {
	x := made(t, 5, 1)
	s, e := romix.New(x.p, 7)
	if e != api.OK {
		t.Fatal(e)
	}
	l := chance(rand.New(rand.NewSource(2400)), 32*7)
	if e := s.Put(3, l); e != api.OK {
		t.Fatal(e)
	}
	copy(x.bytes[128*7*3:], bytesOf(l))
	x.stands(t)
	x.mix(t, 2, 3, 20)
	other := *x
	other.s, other.r = s, 7
	other.stands(t)
}

// P24.2

func TestPut(t *testing.T) {
	c := rand.New(rand.NewSource(2401))
	for _, shape := range shapes() {
		x := made(t, shape[1], shape[0])
		for _, k := range c.Perm(x.s.Rows()) {
			l := chance(c, 32*x.r)
			kept := slices.Clone(l)
			if e := x.s.Put(k, l); e != api.OK || !slices.Equal(l, kept) {
				t.Fatalf("r %d, row %d: %d, or the words are changed", x.r, k, e)
			}
			copy(x.row(k), bytesOf(l))
			clear(l)
			if k%7 == 0 {
				x.stands(t)
			}
		}
		x.stands(t)
	}
}

// TestPutEachBit: each bit alone, in one row amid others, over words that are all 1 and all 0.
func TestPutEachBit(t *testing.T) {
	x := made(t, 2, 3)
	for bit := range 32 * 96 {
		for _, of := range []uint32{0, math.MaxUint32} {
			l := slices.Repeat([]uint32{of}, 96)
			l[bit/32] ^= 1 << (bit % 32)
			if e := x.s.Put(3, l); e != api.OK {
				t.Fatal(bit, e)
			}
			copy(x.row(3), bytesOf(l))
		}
		x.stands(t)
	}
}

// TestRowIsNew: an answer shares no memory with the piece, nor with the next answer, and nothing lies behind it.
func TestRowIsNew(t *testing.T) {
	x := made(t, 3, 5)
	first, _ := x.s.Row(2)
	second, _ := x.s.Row(2)
	if slices.ContainsFunc(first[len(first):cap(first)], func(w uint32) bool { return w != 0 }) {
		t.Error("something lies behind the answer")
	}
	clear(first)
	if !slices.Equal(second, wordsOf(x.row(2))) {
		t.Error("two answers are one")
	}
	x.stands(t)
	if e := x.s.Put(2, make([]uint32, 160)); e != api.OK || !slices.Equal(second, wordsOf(x.row(2))) {
		t.Error("the answer is the piece's own memory", e)
	}
}

// TestPutBehindLength: what lies behind a list's length is neither put nor changed.
func TestPutBehindLength(t *testing.T) {
	x := made(t, 2, 1)
	long := chance(rand.New(rand.NewSource(2402)), 200)
	kept := slices.Clone(long)
	if e := x.s.Put(4, long[:32]); e != api.OK {
		t.Error(e)
	}
	copy(x.row(4), bytesOf(kept[:32]))
	if e := x.s.Put(5, long[:31]); e != api.ErrSize {
		t.Error(e)
	}
	x.stands(t)
	if !slices.Equal(long, kept) {
		t.Error("the words are changed")
	}
}

// refused tells of calls of row k that don't all have one error, with nothing beside it; words that are too few don't matter.
func refused(t *testing.T, s *romix.Store, r, k int, want api.Errno) {
	t.Helper()
	if l, e := s.Row(k); len(l) != 0 || e != want {
		t.Errorf("Row(%d): %d words, %d, not %d", k, len(l), e, want)
	}
	for _, n := range []int{0, 1, 32*r - 1, 32 * r, 32*r + 1} {
		if e := s.Put(k, make([]uint32, n)); e != want {
			t.Errorf("Put(%d, %d words): %d, not %d", k, n, e, want)
		}
	}
	if e := s.Put(k, nil); e != want {
		t.Errorf("Put(%d, nil): %d, not %d", k, e, want)
	}
	for _, log := range []int{math.MinInt, -1, 0, 1, 62, 63, math.MaxInt} {
		for _, first := range []int{math.MinInt, -1, 0, 1, k, math.MaxInt} {
			if e := s.Mix(k, log, first); e != want {
				t.Errorf("Mix(%d, %d, %d): %d, not %d", k, log, first, e, want)
			}
		}
	}
}

func TestNoSuchRow(t *testing.T) {
	for _, c := range shapes() {
		x := made(t, c[1], c[0])
		n := x.rows()
		for _, k := range append(far(), n, n+1, n+2, n+255, -n, -n-1, 1<<22, 1<<25) {
			if k < 0 || k >= n {
				refused(t, x.s, x.r, k, api.ErrNone)
			}
		}
		x.stands(t)
	}
}

func TestSizesRefused(t *testing.T) {
	long := chance(rand.New(rand.NewSource(2403)), 32*514)
	for _, c := range shapes() {
		x := made(t, c[1], c[0])
		r := x.r
		for k := range x.s.Rows() {
			for _, n := range []int{0, 1, r, 16 * r, 16*r + 1, 32*r - 32, 32*r - 1, 32*r + 1, 32*r + 16, 32*r + 32, 64 * r, len(long)} {
				if n <= len(long) {
					if e := x.s.Put(k, long[:n]); e != api.ErrSize {
						t.Fatalf("r %d: Put(%d, %d words): %d", r, k, n, e)
					}
				}
			}
			if e := x.s.Put(k, nil); e != api.ErrSize {
				t.Fatalf("r %d: Put(%d, nil): %d", r, k, e)
			}
		}
		x.stands(t)
	}
}

// TestTakenBack: there are as many rows, none of which can be reached; that there is no such row is told ahead of it.
func TestTakenBack(t *testing.T) {
	for _, c := range shapes() {
		x := made(t, c[1], c[0])
		if e := x.a.Release(x.p); e != api.OK {
			t.Fatal(e)
		}
		if n := x.s.Rows(); n != x.rows() {
			t.Fatalf("%d rows, not %d", n, x.rows())
		}
		for k := range x.rows() {
			if k < 9 || k > x.rows()-3 {
				refused(t, x.s, x.r, k, api.ErrState)
			}
		}
		for _, k := range append(far(), x.rows(), x.rows()+1) {
			refused(t, x.s, x.r, k, api.ErrNone)
		}
		s, e := romix.New(x.p, x.r)
		if s == nil || e != api.OK || s.Rows() != x.rows() {
			t.Fatal("a piece that was taken back has no store", e)
		}
		if x.rows() > 0 {
			refused(t, s, x.r, 0, api.ErrState)
		}
		if s, e := romix.New(x.p, 513); s != nil || e != api.ErrParams {
			t.Error(s, e)
		}
		if !x.p.Clean() {
			t.Error("a piece that was taken back is written to")
		}
	}
}

func TestNil(t *testing.T) {
	var s *romix.Store
	if s.Rows() != 0 {
		t.Error(s.Rows())
	}
	for _, k := range append(far(), 0, 1, 2) {
		refused(t, s, 1, k, api.ErrNone)
	}
}

// TestMadeByNobody: such stores, and stores of such a piece, end too.
func TestMadeByNobody(t *testing.T) {
	x := made(t, 2, 1)
	of, e := romix.New(&arena.Piece{}, 1)
	if e != api.OK {
		t.Fatal(e)
	}
	without, _ := romix.New(x.p, 1)
	without.Piece = nil
	for _, s := range []*romix.Store{{}, {Piece: x.p}, {Piece: &arena.Piece{}}, of, without} {
		s.Rows()
		for _, k := range append(far(), 0, 1) {
			s.Row(k)
			s.Put(k, nil)
			s.Put(k, make([]uint32, 32))
			s.Mix(k, 0, 1)
			s.Mix(k, 62, 0)
		}
	}
	if of.Rows() != 0 {
		t.Error(of.Rows())
	}
	refused(t, of, 1, 0, api.ErrNone)
	x.stands(t)
}

// P24.3

// TestMixKnown: the example of RFC 7914, of 16 rows.
func TestMixKnown(t *testing.T) {
	in := "f7ce0b65 3d2d72a4 108cf5ab e912ffdd 777616db bb27a70e 8204f3ae 2d0f6fad" +
		"89f68f48 11d1e87b cc3bd740 0a9ffd29 094f0184 639574f3 9ae5a131 5217bcd7" +
		"89499144 7213bb22 6c25b54d a86370fb cd984380 374666bb 8ffcb5bf 40c254b0" +
		"67d27c51 ce4ad5fe d829c90b 505a571b 7f4d1cad 6a523cda 770e67bc eaaf7e89"
	out := "79ccc193 629debca 047f0b70 604bf6b6 2ce3dd4a 9626e355 fafc6198 e6ea2b46" +
		"d5841367 3b99b029 d665c357 601fb426 a0b2f4bb a200ee9f 0a43d19b 571a9c71" +
		"ef1142e6 5d5a266f ddca832c e59faa7c ac0b9cf1 be2bffca 300d01ee 387619c4" +
		"ae12fd44 38f203a0 e4e1c47e c314861f 4e9087cb 33396a68 73e8f9d2 539a4b8e"
	b, err := hex.DecodeString(strings.ReplaceAll(in, " ", ""))
	if err != nil {
		t.Fatal(err)
	}
	for _, c := range [][2]int{{0, 1}, {0, 8}, {16, 0}, {23, 7}, {3, 4}} {
		x := made(t, 3, 1)
		x.s.Put(c[0], wordsOf(b))
		if e := x.s.Mix(c[0], 4, c[1]); e != api.OK {
			t.Fatal(e)
		}
		l, e := x.s.Row(c[0])
		if got := hex.EncodeToString(bytesOf(l)); got != strings.ReplaceAll(out, " ", "") || e != api.OK {
			t.Errorf("row %d by way of those from %d on: %s, %d", c[0], c[1], got, e)
		}
	}
}

// TestMixSums: rows that another romix mixed, by their SHA-256.
func TestMixSums(t *testing.T) {
	for _, c := range []struct {
		r, log int
		sum    string
	}{
		{1, 0, "197baa57608a0f04b0565c15d7911569fb277028c61b87d50c92f20b5873d58c"},
		{1, 1, "5296791a2ed52fcb28810f2730ef042f52a8d4f60da321284624e382583b2982"},
		{1, 2, "960a0f2e73fb4b359368417e6274e1f11271a6f447a11b4d8a98e3c8a0683c61"},
		{1, 5, "996d30b802b99725f3e45c8bd3317b2da6b647db90910939f4d18facc7b96497"},
		{2, 0, "9c67ddc44c4291f86e1dbb995b1865598ffee85740ca9a70e20371a3060e396e"},
		{2, 3, "f1e75ee8f0d8f5e819d3b522b3a29a20d1177c2e8b1c6798671512d59cdadc01"},
		{3, 0, "df7df88532d409d5b37aa834a342b8295ad7ea9bf3360823c72b84b97711538c"},
		{3, 2, "a3a156efcabcc36188d231e52ee5781866d05a93c21c8f96baca7d653dfd994e"},
		{5, 1, "54d498b4ae65736359349f78f6b7f230d065501cfb7dc40de41f77e274d3d4ed"},
		{5, 5, "b8d80e9029e33b33242f2b274673a983d798af2513174320cf704dea91b5ce99"},
	} {
		x := made(t, 40, c.r)
		b := make([]byte, 128*c.r)
		for i := range b {
			b[i] = byte(i*7 + c.r*31 + c.log*13 + i/128)
		}
		x.s.Put(2, wordsOf(b))
		if e := x.s.Mix(2, c.log, 5); e != api.OK {
			t.Fatal(e)
		}
		l, _ := x.s.Row(2)
		if sum := sha256.Sum256(bytesOf(l)); hex.EncodeToString(sum[:]) != c.sum {
			t.Errorf("r %d, log %d: %x", c.r, c.log, sum)
		}
	}
}

// TestMix: any row by way of any others, ahead of them and behind, against the RFC's steps; what is left of the piece stays.
func TestMix(t *testing.T) {
	c := rand.New(rand.NewSource(2404))
	for _, shape := range shapes() {
		x := made(t, shape[1], shape[0])
		for range 12 {
			log := c.Intn(6)
			free := x.rows() - 1<<log
			if free < 1 {
				continue
			}
			first := c.Intn(free + 1)
			k := c.Intn(free)
			if k >= first {
				k += 1 << log
			}
			x.mix(t, k, log, first)
			x.stands(t)
		}
	}
}

// TestMixEdges: the first row by way of all others, and the last one; rows next to each other; one row alone.
func TestMixEdges(t *testing.T) {
	for _, r := range []int{1, 2, 3, 5, 8, 13} {
		for log := range 7 {
			n := 1 << log
			x := made(t, ((n+1)*r+7)/8, r)
			last := x.rows() - 1
			x.mix(t, 0, log, 1)
			x.stands(t)
			x.mix(t, n, log, 0)
			x.stands(t)
			x.mix(t, 0, log, last-n+1)
			x.stands(t)
			x.mix(t, last, log, 0)
			x.stands(t)
		}
	}
}

// TestMixWide: rows of the greatest widths, of many blocks each.
func TestMixWide(t *testing.T) {
	for _, r := range []int{255, 257, 511, 512} {
		x := made(t, 9*64+5, r)
		x.mix(t, 0, 3, 1)
		x.stands(t)
		x.mix(t, 8, 2, 3)
		x.stands(t)
	}
}

// TestMixMany: by way of many rows, so that numbers of more than one byte are picked.
func TestMixMany(t *testing.T) {
	x := made(t, 520, 1)
	x.mix(t, 4100, 12, 3)
	x.stands(t)
	x.mix(t, 1, 11, 1500)
	x.stands(t)
}

// TestMixOfAlike: rows of words that are all alike; of words 0 all stay so.
func TestMixOfAlike(t *testing.T) {
	for _, w := range []uint32{0, 1, 1 << 31, 0x01020304, math.MaxUint32} {
		for _, r := range []int{1, 3, 8} {
			x := made(t, 20, r)
			l := slices.Repeat([]uint32{w}, 32*r)
			x.s.Put(4, l)
			copy(x.row(4), bytesOf(l))
			x.mix(t, 4, 3, 5)
			x.stands(t)
			if got, e := x.s.Row(4); w == 0 && !slices.Equal(got, l) || e != api.OK {
				t.Error(r, got, e)
			}
		}
	}
}

// TestMixFills: what stood in the rows ahead doesn't matter, nor which ones they are.
func TestMixFills(t *testing.T) {
	l := chance(rand.New(rand.NewSource(2405)), 96)
	var want []uint32
	for i, c := range [][2]int{{0, 1}, {0, 9}, {20, 2}, {9, 10}, {9, 1}, {25, 0}} {
		x := made(t, 10+i, 3)
		x.s.Put(c[0], l)
		if e := x.s.Mix(c[0], 3, c[1]); e != api.OK {
			t.Fatal(e)
		}
		got, _ := x.s.Row(c[0])
		if want == nil {
			want = got
		}
		if !slices.Equal(got, want) {
			t.Errorf("row %d by way of those from %d on is another one", c[0], c[1])
		}
		if first, _ := x.s.Row(c[1]); !slices.Equal(first, l) {
			t.Errorf("row %d is not what row %d was", c[1], c[0])
		}
	}
}

// wrong is the error that a store of so many rows, whose piece is lent, is to have of Mix.
func wrong(rows, k, log, first int) api.Errno {
	switch {
	case k < 0 || k >= rows:
		return api.ErrNone
	case log < 0 || log > 62:
		return api.ErrParams
	case first < 0 || first >= rows || log > 30 || 1<<log > rows-first:
		return api.ErrNone
	case k >= first && k < first+1<<log:
		return api.ErrArg
	}
	return api.OK
}

// TestMixErrors: all numbers about the rows that there are, and numbers far beyond them; what is refused changes nothing.
func TestMixErrors(t *testing.T) {
	for _, c := range [][2]int{{1, 1}, {2, 3}, {3, 3}, {9, 5}, {9, 1}, {512, 128}} {
		x := made(t, c[1], c[0])
		n := x.rows()
		places, logs := far(), []int{math.MinInt, -64, -1, 30, 31, 32, 57, 58, 59, 61, 62, 63, 64, 65, 127, 1 << 32, math.MaxInt}
		for i := -2; i < n+3; i++ {
			places = append(places, i)
		}
		for log := range 8 {
			logs = append(logs, log)
		}
		for _, k := range places {
			for _, log := range logs {
				for _, first := range places {
					want := wrong(n, k, log, first)
					if want == api.OK {
						continue
					}
					if e := x.s.Mix(k, log, first); e != want {
						t.Fatalf("%d rows: Mix(%d, %d, %d): %d, not %d", n, k, log, first, e, want)
					}
				}
			}
		}
		x.stands(t)
	}
}

// TestMixAllThatMayBe: whatever isn't refused is done.
func TestMixAllThatMayBe(t *testing.T) {
	for _, c := range [][2]int{{1, 1}, {2, 3}, {3, 3}} {
		x := made(t, c[1], c[0])
		for k := range x.rows() {
			for log := range 5 {
				for first := range x.rows() {
					if wrong(x.rows(), k, log, first) == api.OK {
						x.mix(t, k, log, first)
						x.stands(t)
					}
				}
			}
		}
	}
}

// scrypt is RFC 7914's key, with rows mixed by a store and another PBKDF2.
func scrypt(t *testing.T, word, salt string, log, r, p, bytes int) string {
	t.Helper()
	rows, err := pbkdf2.Key(sha256.New, word, []byte(salt), 1, 128*r*p)
	if err != nil {
		t.Fatal(err)
	}
	x := made(t, (r*(1<<log+p)+7)/8, r)
	for i := range p {
		x.s.Put(i, wordsOf(rows[128*r*i:128*r*(i+1)]))
	}
	var out []byte
	for i := range p {
		if e := x.s.Mix(i, log, p); e != api.OK {
			t.Fatal(e)
		}
		l, _ := x.s.Row(i)
		out = append(out, bytesOf(l)...)
	}
	key, err := pbkdf2.Key(sha256.New, word, out, 1, bytes)
	if err != nil {
		t.Fatal(err)
	}
	return hex.EncodeToString(key)
}

// TestScryptKnown: keys of RFC 7914 (the first three), and of another scrypt, at widths that are even, odd, and the greatest.
func TestScryptKnown(t *testing.T) {
	for _, c := range []struct {
		word, salt string
		log, r, p  int
		key        string
	}{
		{"", "", 4, 1, 1, "77d6576238657b203b19ca42c18a0497f16b4844e3074ae8dfdffa3fede21442fcd0069ded0948f8326a753a0fc81f17e8d3e0fb2e0d3628cf35e20c38d18906"},
		{"password", "NaCl", 10, 8, 16, "fdbabe1c9d3472007856e7190d01e9fe7c6ad7cbc8237830e77376634b3731622eaf30d92e22a3886ff109279d9830dac727afb94a83ee6d8360cbdfa2cc0640"},
		{"pleaseletmein", "SodiumChloride", 14, 8, 1, "7023bdcb3afd7348461c06cd81fd38ebfda8fbba904f8e3ea9b543f6545da1f2d5432955613f0fcf62d49705242a9af9e61e85dc0d651e40dfcf017b45575887"},
		{"password", "salt", 1, 1, 1, "6d1bb878eee9ce4a7b77d7a44103574d4cbfe3c15ae3940f0ffe75cd5e1e0afa"},
		{"password", "salt", 6, 1, 3, "6b98f18268cef58e59c6e7d39f5a744aaf4f86436bf26fd913215df4dc7b474c"},
		{"password", "salt", 3, 4, 2, "0a2d58cc752c3ba3e9a1ccebd89b2cff5b9eb514f8b1a9746ec19d70a9b4b736"},
		{"password", "salt", 5, 7, 2, "10d45a2d2b1e6ffcafedbba54184b7da16a9ecc07f1e66bf1095f3a33fdc18e6"},
		{"password", "salt", 8, 9, 1, "2efe08b4202901d83544c4872dadcd6e32acde1f49f0a091334fe3dc14465576"},
		{"password", "salt", 3, 100, 5, "1ce13ca2d69d36b6666e45c24f418fb74a92ea7e53af8947413092fd96dc92cf"},
		{"password", "salt", 2, 511, 1, "ef1930c9695bebecadfc46fbcce2e34f959949305cccf945890f3d00273aee51"},
		{"password", "salt", 7, 512, 1, "48149dbf66151c0ce88b3df60f77e90d3921eaeec3fd2b3634568b9781494505"},
	} {
		if key := scrypt(t, c.word, c.salt, c.log, c.r, c.p, len(c.key)/2); key != c.key {
			t.Errorf("log %d, r %d, p %d: %s, not %s", c.log, c.r, c.p, key, c.key)
		}
	}
}

// P24.4

// TestOthersStay: rows that are neither mixed nor filled, and what is behind the last whole row.
func TestOthersStay(t *testing.T) {
	for _, c := range [][2]int{{1, 4}, {3, 7}, {5, 11}, {9, 23}, {63, 90}} {
		x := made(t, c[1], c[0])
		before := image(t, x.p)
		const k, log, first = 7, 1, 3
		if e := x.s.Mix(k, log, first); e != api.OK {
			t.Fatal(e)
		}
		after := image(t, x.p)
		width := 128 * x.r
		for i := range after {
			at := i / width
			if at != k && (at < first || at >= first+1<<log) && after[i] != before[i] {
				t.Fatalf("r %d: byte %d of row %d is changed", x.r, i%width, at)
			}
		}
		for _, at := range []int{k, first, first + 1} {
			if bytes.Equal(after[at*width:(at+1)*width], before[at*width:(at+1)*width]) {
				t.Errorf("r %d: row %d is not changed", x.r, at)
			}
		}
	}
}

func TestExample(t *testing.T) {
	x := made(t, 1, 1)
	before := image(t, x.p)
	if x.s.Rows() != 8 {
		t.Error(x.s.Rows())
	}
	if e := x.s.Mix(0, 1, 1); e != api.OK {
		t.Error(e)
	}
	after := image(t, x.p)
	for k := range 8 {
		if changed := !bytes.Equal(before[128*k:128*(k+1)], after[128*k:128*(k+1)]); changed != (k < 3) {
			t.Errorf("row %d: changed is %t", k, changed)
		}
	}
}
