package salsa_test

import (
	"bytes"
	"encoding/binary"
	"encoding/hex"
	"math"
	"math/bits"
	"math/rand"
	"strings"
	"testing"

	"pestle/api"
	"pestle/salsa"
)

// square is sixteen words as four rows of four.
type square [4][4]uint32

func rows(x [16]uint32) square {
	var s square
	for i, w := range x {
		s[i/4][i%4] = w
	}
	return s
}

func (s square) flat() [16]uint32 {
	var x [16]uint32
	for i := range x {
		x[i] = s[i/4][i%4]
	}
	return x
}

// mirrored has each column as a row.
func (s square) mirrored() square {
	var m square
	for i := range s {
		for j := range s[i] {
			m[j][i] = s[i][j]
		}
	}
	return m
}

// rowRound is Salsa20's own: row i, from its word i on and around, is mixed; each word of it by the two that were mixed ahead.
func (s square) rowRound() square {
	for i := range s {
		r := &s[i]
		for k, by := range [4]int{7, 9, 13, 18} {
			r[(i+k+1)%4] ^= bits.RotateLeft32(r[(i+k)%4]+r[(i+k+3)%4], by)
		}
	}
	return s
}

// rowRoundUndone takes the steps of rowRound back, the last one first.
func (s square) rowRoundUndone() square {
	turns := [4]int{7, 9, 13, 18}
	for i := range s {
		r := &s[i]
		for k := 3; k >= 0; k-- {
			r[(i+k+1)%4] ^= bits.RotateLeft32(r[(i+k)%4]+r[(i+k+3)%4], turns[k])
		}
	}
	return s
}

// double is a column round, which is a row round of the mirrored words, and a row round.
func double(x [16]uint32) [16]uint32 {
	return rows(x).mirrored().rowRound().mirrored().rowRound().flat()
}

func core(x [16]uint32, doubles int) [16]uint32 {
	y := x
	for range doubles {
		y = double(y)
	}
	for i := range y {
		y[i] += x[i]
	}
	return y
}

func undoneQuarter(a, b, c, d uint32) (uint32, uint32, uint32, uint32) {
	a ^= bits.RotateLeft32(d+c, 18)
	d ^= bits.RotateLeft32(c+b, 13)
	c ^= bits.RotateLeft32(b+a, 9)
	b ^= bits.RotateLeft32(a+d, 7)
	return a, b, c, d
}

func undoneDouble(x [16]uint32) [16]uint32 {
	return rows(x).rowRoundUndone().mirrored().rowRoundUndone().mirrored().flat()
}

// edges are words at which sums wrap around, bits stand alone, or all are alike.
func edges() []uint32 {
	l := []uint32{0, 1, 2, 0x7fffffff, 0x80000001, 0xfffffffe, math.MaxUint32, 0x01020304, 0xaaaaaaaa, 0x55555555}
	for i := range 32 {
		l = append(l, 1<<i)
	}
	return l
}

// inputs are words alone at each place, all alike, and many of any kind, the same in each run.
func inputs() [][16]uint32 {
	l := [][16]uint32{{}}
	for i := range 16 {
		for _, w := range []uint32{1, 0x80000000, math.MaxUint32} {
			var x [16]uint32
			x[i] = w
			l = append(l, x)
		}
	}
	for _, w := range edges() {
		var x [16]uint32
		for i := range x {
			x[i] = w
		}
		l = append(l, x)
	}
	r := rand.New(rand.NewSource(12))
	for range 200 {
		var x [16]uint32
		for i := range x {
			x[i] = r.Uint32()
		}
		l = append(l, x)
	}
	return l
}

// unhexed is the bytes of digits that may have spaces between them.
func unhexed(t *testing.T, digits string) []byte {
	t.Helper()
	b, err := hex.DecodeString(strings.ReplaceAll(digits, " ", ""))
	if err != nil {
		t.Fatal(digits, err)
	}
	return b
}

// littles is sixteen words of 64 bytes, the lowest byte of each first.
func littles(b []byte) [16]uint32 {
	var x [16]uint32
	for i := range x {
		x[i] = binary.LittleEndian.Uint32(b[4*i:])
	}
	return x
}

// unlittles is the bytes of sixteen words, the lowest one of each first.
func unlittles(x [16]uint32) []byte {
	var b []byte
	for _, w := range x {
		b = binary.LittleEndian.AppendUint32(b, w)
	}
	return b
}

// P12.1

// TestQuarterKnown: the examples of Salsa20's own description.
func TestQuarterKnown(t *testing.T) {
	for _, k := range [][2][4]uint32{
		{{0, 0, 0, 0}, {0, 0, 0, 0}},
		{{1, 0, 0, 0}, {0x08008145, 0x00000080, 0x00010200, 0x20500000}},
		{{0, 1, 0, 0}, {0x88000100, 0x00000001, 0x00000200, 0x00402000}},
		{{0, 0, 1, 0}, {0x80040000, 0x00000000, 0x00000001, 0x00002000}},
		{{0, 0, 0, 1}, {0x00048044, 0x00000080, 0x00010000, 0x20100001}},
		{{0xe7e8c006, 0xc4f9417d, 0x6479b4b2, 0x68c67137}, {0xe876d72b, 0x9361dfd5, 0xf1460244, 0x948541a3}},
		{{0xd3917c5b, 0x55f1c407, 0x52a58a7a, 0x8f887a3b}, {0x3e2f308c, 0xd90a8f36, 0x6ab2a923, 0x2883524c}},
	} {
		a, b, c, d := salsa.Quarter(k[0][0], k[0][1], k[0][2], k[0][3])
		if got := [4]uint32{a, b, c, d}; got != k[1] {
			t.Errorf("Quarter(%08x): %08x, not %08x", k[0], got, k[1])
		}
	}
}

// TestQuarterSteps: the document's own steps, each word made of those that are new already.
func TestQuarterSteps(t *testing.T) {
	l := edges()
	r := rand.New(rand.NewSource(1))
	for range 5000 {
		w := [4]uint32{r.Uint32(), r.Uint32(), r.Uint32(), r.Uint32()}
		for i := range w {
			if r.Intn(2) == 0 {
				w[i] = l[r.Intn(len(l))]
			}
		}
		b := w[1] ^ bits.RotateLeft32(w[0]+w[3], 7)
		c := w[2] ^ bits.RotateLeft32(b+w[0], 9)
		d := w[3] ^ bits.RotateLeft32(c+b, 13)
		a := w[0] ^ bits.RotateLeft32(d+c, 18)
		a2, b2, c2, d2 := salsa.Quarter(w[0], w[1], w[2], w[3])
		if a2 != a || b2 != b || c2 != c || d2 != d {
			t.Fatalf("Quarter(%08x): %08x %08x %08x %08x, not %08x %08x %08x %08x", w, a2, b2, c2, d2, a, b, c, d)
		}
	}
}

// P12.2

// TestDoubleKnown: the examples of Salsa20's own description.
func TestDoubleKnown(t *testing.T) {
	for _, k := range [][2][16]uint32{
		{{}, {}},
		{{1}, {
			0x8186a22d, 0x0040a284, 0x82479210, 0x06929051, 0x08000090, 0x02402200, 0x00004000, 0x00800000,
			0x00010200, 0x20400000, 0x08008104, 0x00000000, 0x20500000, 0xa0000040, 0x0008180a, 0x612a8020,
		}},
		{{
			0xde501066, 0x6f9eb8f7, 0xe4fbbd9b, 0x454e3f57, 0xb75540d3, 0x43e93a4c, 0x3a6f2aa0, 0x726d6b36,
			0x9243f484, 0x9145d1e8, 0x4fa9d247, 0xdc8dee11, 0x054bf545, 0x254dd653, 0xd9421b6d, 0x67b276c1,
		}, {
			0xccaaf672, 0x23d960f7, 0x9153e63a, 0xcd9a60d0, 0x50440492, 0xf07cad19, 0xae344aa0, 0xdf4cfdfc,
			0xca531c29, 0x8e7943db, 0xac1680cd, 0xd503ca00, 0xa74b2ad6, 0xbc331c5c, 0x1dda24c7, 0xee928277,
		}},
	} {
		if got := salsa.Double(k[0]); got != k[1] {
			t.Errorf("Double(%08x): %08x, not %08x", k[0], got, k[1])
		}
	}
}

// TestDoubleSquare: Double is columns and rows of a square, each from the diagonal on.
func TestDoubleSquare(t *testing.T) {
	for _, x := range inputs() {
		if got, want := salsa.Double(x), double(x); got != want {
			t.Fatalf("Double(%08x): %08x, not %08x", x, got, want)
		}
	}
}

// TestDoublePlaces: the document's own places, in its order.
func TestDoublePlaces(t *testing.T) {
	for _, x := range inputs() {
		y := x
		for _, p := range strings.Split("0 4 8 12,5 9 13 1,10 14 2 6,15 3 7 11,0 1 2 3,5 6 7 4,10 11 8 9,15 12 13 14", ",") {
			var at [4]int
			for i, s := range strings.Fields(p) {
				for _, c := range s {
					at[i] = 10*at[i] + int(c-'0')
				}
			}
			y[at[0]], y[at[1]], y[at[2]], y[at[3]] = salsa.Quarter(y[at[0]], y[at[1]], y[at[2]], y[at[3]])
		}
		if got := salsa.Double(x); got != y {
			t.Fatalf("Double(%08x): %08x, not %08x", x, got, y)
		}
	}
}

// P12.3

// TestCore: each number of Doubles that may be, from none on.
func TestCore(t *testing.T) {
	l := inputs()
	for doubles := range 101 {
		for _, x := range [][16]uint32{l[1], l[48], l[60], l[len(l)-1-doubles]} {
			if got, e := salsa.Core(x, doubles); got != core(x, doubles) || e != api.OK {
				t.Errorf("Core(%08x, %d): %08x %d, not %08x", x, doubles, got, e, core(x, doubles))
			}
		}
	}
}

// TestCoreOfNone: no Double leaves each word twice, wrapped around.
func TestCoreOfNone(t *testing.T) {
	for _, x := range inputs() {
		want := x
		for i := range want {
			want[i] *= 2
		}
		if got, e := salsa.Core(x, 0); got != want || e != api.OK {
			t.Errorf("Core(%08x, 0): %08x %d, not %08x", x, got, e, want)
		}
	}
}

// TestCoreRefused: too many Doubles, or less than none, with nothing beside the error.
func TestCoreRefused(t *testing.T) {
	for _, doubles := range []int{-1, -2, -4, -100, -101, 101, 102, 104, 200, 256, 260, 1 << 16, math.MaxInt32, 1 << 32, 1<<32 + 4, math.MaxInt, math.MinInt, math.MinInt32, math.MinInt + 4} {
		for _, x := range [][16]uint32{{}, {1, 2, 3}, {15: math.MaxUint32}} {
			if got, e := salsa.Core(x, doubles); got != [16]uint32{} || e != api.ErrArg {
				t.Errorf("Core(%08x, %d): %08x %d", x, doubles, got, e)
			}
		}
	}
}

// TestCoreTwenty: the examples of Salsa20's own description, which has ten Doubles.
func TestCoreTwenty(t *testing.T) {
	for _, k := range [][2][64]byte{
		{{
			211, 159, 13, 115, 76, 55, 82, 183, 3, 117, 222, 37, 191, 187, 234, 136,
			49, 237, 179, 48, 1, 106, 178, 219, 175, 199, 166, 48, 86, 16, 179, 207,
			31, 240, 32, 63, 15, 83, 93, 161, 116, 147, 48, 113, 238, 55, 204, 36,
			79, 201, 235, 79, 3, 81, 156, 47, 203, 26, 244, 243, 88, 118, 104, 54,
		}, {
			109, 42, 178, 168, 156, 240, 248, 238, 168, 196, 190, 203, 26, 110, 170, 154,
			29, 29, 150, 26, 150, 30, 235, 249, 190, 163, 251, 48, 69, 144, 51, 57,
			118, 40, 152, 157, 180, 57, 27, 94, 107, 42, 236, 35, 27, 111, 114, 114,
			219, 236, 232, 135, 111, 155, 110, 18, 24, 232, 95, 158, 179, 19, 48, 202,
		}},
		{{
			88, 118, 104, 54, 79, 201, 235, 79, 3, 81, 156, 47, 203, 26, 244, 243,
			191, 187, 234, 136, 211, 159, 13, 115, 76, 55, 82, 183, 3, 117, 222, 37,
			86, 16, 179, 207, 49, 237, 179, 48, 1, 106, 178, 219, 175, 199, 166, 48,
			238, 55, 204, 36, 31, 240, 32, 63, 15, 83, 93, 161, 116, 147, 48, 113,
		}, {
			179, 19, 48, 202, 219, 236, 232, 135, 111, 155, 110, 18, 24, 232, 95, 158,
			26, 110, 170, 154, 109, 42, 178, 168, 156, 240, 248, 238, 168, 196, 190, 203,
			69, 144, 51, 57, 29, 29, 150, 26, 150, 30, 235, 249, 190, 163, 251, 48,
			27, 111, 114, 114, 118, 40, 152, 157, 180, 57, 27, 94, 107, 42, 236, 35,
		}},
	} {
		x, e := salsa.Core(littles(k[0][:]), 10)
		if got := unlittles(x); !bytes.Equal(got, k[1][:]) || e != api.OK {
			t.Errorf("%d %d, not %d", got, e, k[1])
		}
	}
}

// TestEight: Eight is Core of four Doubles.
func TestEight(t *testing.T) {
	if got := salsa.Eight([16]uint32{}); got != [16]uint32{} {
		t.Errorf("words 0: %08x", got)
	}
	for _, x := range inputs() {
		got := salsa.Eight(x)
		if got != core(x, 4) {
			t.Fatalf("Eight(%08x): %08x, not %08x", x, got, core(x, 4))
		}
		if c, e := salsa.Core(x, 4); got != c || e != api.OK {
			t.Fatalf("Core(%08x, 4): %08x %d, not %08x", x, c, e, got)
		}
	}
}

// known is the example of RFC 7914: 64 bytes, and what Salsa20/8 makes of them.
func known(t *testing.T) ([]byte, []byte) {
	t.Helper()
	in := "7e879a21 4f3ec986 7ca940e6 41718f26 baee555b 8c61c1b5 0df84611 6dcd3b1d" +
		"ee24f319 df9b3d85 14121e4b 5ac5aa32 76021d29 09c74829 edebc68d b8b8c25e"
	out := "a41f859c 6608cc99 3b81cacb 020cef05 044b2181 a2fd337d fd7b1c63 96682f29" +
		"b4393168 e3c9e6bc fe6bc5b7 a06d96ba e424cc10 2c91745c 24ad673d c7618f81"
	return unhexed(t, in), unhexed(t, out)
}

func TestBytesKnown(t *testing.T) {
	in, out := known(t)
	if got, e := salsa.Bytes(in); !bytes.Equal(got, out) || e != api.OK {
		t.Errorf("%x %d, not %x", got, e, out)
	}
	if got := salsa.Eight(littles(in)); got != littles(out) {
		t.Errorf("Eight: %08x, not %08x", got, littles(out))
	}
}

// TestBytesOfWords: each word stands with its lowest byte first, ahead and behind.
func TestBytesOfWords(t *testing.T) {
	for _, x := range inputs() {
		want := unlittles(core(x, 4))
		if got, e := salsa.Bytes(unlittles(x)); !bytes.Equal(got, want) || e != api.OK {
			t.Fatalf("%08x: %x %d, not %x", x, got, e, want)
		}
	}
}

// TestBytesRefused: any other number of bytes, with nothing beside the error.
func TestBytesRefused(t *testing.T) {
	sizes := []int{1024, 4096, 1<<16 + 64}
	for n := range 300 {
		sizes = append(sizes, n)
	}
	for _, n := range sizes {
		got, e := salsa.Bytes(bytes.Repeat([]byte{0x5a}, n))
		if n == 64 && (len(got) != 64 || e != api.OK) || n != 64 && (len(got) != 0 || e != api.ErrSize) {
			t.Errorf("%d bytes: %x %d", n, got, e)
		}
	}
	if got, e := salsa.Bytes(nil); len(got) != 0 || e != api.ErrSize {
		t.Errorf("nil: %x %d", got, e)
	}
}

// TestBytesBehindTheLength: what lies behind a list's length is neither read, nor changed, nor handed out.
func TestBytesBehindTheLength(t *testing.T) {
	in, out := known(t)
	long := append(bytes.Clone(in), bytes.Repeat([]byte{0xee}, 64)...)
	kept := bytes.Clone(long)
	if got, e := salsa.Bytes(long[:63]); len(got) != 0 || e != api.ErrSize {
		t.Errorf("63 of them: %x %d", got, e)
	}
	if got, e := salsa.Bytes(long[:0]); len(got) != 0 || e != api.ErrSize {
		t.Errorf("none of them: %x %d", got, e)
	}
	got, e := salsa.Bytes(long[:64])
	if !bytes.Equal(got, out) || e != api.OK {
		t.Errorf("64 of them: %x %d", got, e)
	}
	if !bytes.Equal(long, kept) {
		t.Errorf("the bytes are changed: %x", long)
	}
	if bytes.Contains(got[:cap(got)], []byte{0xee, 0xee, 0xee, 0xee}) {
		t.Error("what lies behind is handed out")
	}
}

// TestBytesAreNew: the answer shares nothing with the argument, nor with the next answer.
func TestBytesAreNew(t *testing.T) {
	in, out := known(t)
	got, _ := salsa.Bytes(in)
	again, _ := salsa.Bytes(in)
	clear(in)
	if !bytes.Equal(got, out) {
		t.Error("the answer is the argument's own memory")
	}
	clear(got)
	if !bytes.Equal(again, out) {
		t.Error("two answers are one")
	}
}

// P12.4

// TestQuarterUndone: a Quarter is taken back, and each four words are what a Quarter makes of some.
func TestQuarterUndone(t *testing.T) {
	for _, x := range inputs() {
		for i := 0; i < 16; i += 4 {
			a, b, c, d := x[i], x[i+1], x[i+2], x[i+3]
			a2, b2, c2, d2 := undoneQuarter(salsa.Quarter(a, b, c, d))
			if a2 != a || b2 != b || c2 != c || d2 != d {
				t.Fatalf("undone: %08x %08x %08x %08x, not %08x %08x %08x %08x", a2, b2, c2, d2, a, b, c, d)
			}
			a2, b2, c2, d2 = salsa.Quarter(undoneQuarter(a, b, c, d))
			if a2 != a || b2 != b || c2 != c || d2 != d {
				t.Fatalf("done: %08x %08x %08x %08x, not %08x %08x %08x %08x", a2, b2, c2, d2, a, b, c, d)
			}
		}
	}
}

// TestDoubleUndone: a Double is taken back, and each sixteen words are what a Double makes of some.
func TestDoubleUndone(t *testing.T) {
	for _, x := range inputs() {
		if y := undoneDouble(salsa.Double(x)); y != x {
			t.Fatalf("undone: %08x, not %08x", y, x)
		}
		if y := salsa.Double(undoneDouble(x)); y != x {
			t.Fatalf("done: %08x, not %08x", y, x)
		}
	}
}

// TestCoreUndone: what Core adds up can be parted again: without the words, it is taken back Double by Double.
func TestCoreUndone(t *testing.T) {
	for _, x := range inputs() {
		y, e := salsa.Core(x, 10)
		if e != api.OK {
			t.Fatal(e)
		}
		for i := range y {
			y[i] -= x[i]
		}
		for range 10 {
			y = undoneDouble(y)
		}
		if y != x {
			t.Fatalf("%08x, not %08x", y, x)
		}
	}
}
