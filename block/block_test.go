package block_test

import (
	"encoding/binary"
	"math"
	"math/rand"
	"slices"
	"strings"
	"testing"

	"pestle/api"
	"pestle/block"
)

// chance is a block of any words.
func chance(r *rand.Rand) api.Block {
	var b api.Block
	for i := range b {
		b[i] = r.Uint64()
	}
	return b
}

// some are blocks with all words unlike, one bit each, and the edges.
func some() []api.Block {
	r := rand.New(rand.NewSource(1901))
	var none, full, rising api.Block
	for i := range rising {
		full[i] = math.MaxUint64
		rising[i] = uint64(i+1) * 0x0102030405060708
	}
	l := []api.Block{none, full, rising}
	for _, k := range []int{0, 1, 63, 64, 126, 127} {
		for _, bit := range []int{0, 7, 8, 31, 32, 63} {
			var b api.Block
			b[k] = 1 << bit
			l = append(l, b)
		}
	}
	for range 20 {
		l = append(l, chance(r))
	}
	return l
}

// laid is a block's bytes, the lowest one of each word first.
func laid(b api.Block) string {
	l := make([]byte, api.BlockSize)
	for i, w := range b {
		binary.LittleEndian.PutUint64(l[8*i:], w)
	}
	return string(l)
}

func TestWords(t *testing.T) {
	for _, n := range []int{128, len(api.Block{}), api.BlockSize / 8} {
		if block.Words != n {
			t.Error(block.Words, n)
		}
	}
}

// P19.1

func TestXorOfKnownBlocks(t *testing.T) {
	a := api.Block{0: 0x0f, 1: 1 << 63, 127: 5}
	b := api.Block{0: 0x3c, 2: 7, 127: 6}
	c := api.Block{0: 0xff, 1: 1 << 63, 2: 8}
	for i, x := range []struct{ got, want api.Block }{
		{block.Xor(), api.Block{}},
		{block.Xor(nil...), api.Block{}},
		{block.Xor([]api.Block{}...), api.Block{}},
		{block.Xor(api.Block{}), api.Block{}},
		{block.Xor(a), a},
		{block.Xor(a, b), api.Block{0: 0x33, 1: 1 << 63, 2: 7, 127: 3}},
		{block.Xor(a, b, c), api.Block{0: 0xcc, 2: 15, 127: 3}},
		{block.Xor(a, a), api.Block{}},
		{block.Xor(a, a, a), a},
		{block.Xor(a, api.Block{}), a},
		{block.Xor(api.Block{}, a), a},
	} {
		if x.got != x.want {
			t.Errorf("case %d: %x, not %x", i, x.got, x.want)
		}
	}
}

// TestXorOfMany holds the words of so many blocks against those put together one by one.
func TestXorOfMany(t *testing.T) {
	r := rand.New(rand.NewSource(1902))
	var l []api.Block
	for n := range 40 {
		var want api.Block
		for k := range want {
			for _, b := range l {
				want[k] = want[k]&^b[k] | b[k]&^want[k]
			}
		}
		if got := block.Xor(l...); got != want {
			t.Fatalf("of %d blocks: %x, not %x", n, got, want)
		}
		l = append(l, chance(r))
	}
}

func TestXorLeavesTheBlocks(t *testing.T) {
	r := rand.New(rand.NewSource(1903))
	room := []api.Block{chance(r), chance(r), chance(r), chance(r)}
	kept := slices.Clone(room)
	got := block.Xor(room[:2]...)
	got[0]++
	if !slices.Equal(room, kept) {
		t.Error("the list is another one now")
	}
	if again := block.Xor(room[:2]...); again != block.Xor(kept[0], kept[1]) || again[0]+1 != got[0] {
		t.Error("what lies behind the list counts, or an answer is shared")
	}
}

func TestClean(t *testing.T) {
	zero := make([]api.Block, 5)
	if !block.Clean() || !block.Clean(nil...) || !block.Clean([]api.Block{}...) {
		t.Error("of no blocks it is false")
	}
	for n := range 6 {
		if !block.Clean(zero[:n]...) {
			t.Errorf("of %d blocks 0 it is false", n)
		}
	}
	if !block.Clean(api.Block{}, api.Block{}) {
		t.Error("of two blocks 0 it is false")
	}
}

// TestCleanSeesEachBit: one bit of one word of one block is enough, wherever it is.
func TestCleanSeesEachBit(t *testing.T) {
	l := make([]api.Block, 3)
	for i := range l {
		for k := range l[i] {
			for bit := range 64 {
				l[i][k] = 1 << bit
				if block.Clean(l...) || block.Clean(l[i]) {
					t.Fatalf("bit %d of word %d of block %d is not seen", bit, k, i)
				}
			}
			l[i][k] = 0
		}
	}
	if !block.Clean(l...) {
		t.Error("of blocks 0 it is false")
	}
}

// TestCleanOfBlocksThatAreGoneTogether: blocks whose Xor, or sum, is 0 are clean no more than another one.
func TestCleanOfBlocksThatAreGoneTogether(t *testing.T) {
	for _, b := range some()[1:] {
		if block.Clean(b, b) || block.Clean(b, api.Block{}) || block.Clean(api.Block{}, b) {
			t.Fatalf("%x is clean", b)
		}
	}
	if block.Clean(api.Block{0: 1, 1: math.MaxUint64}) || block.Clean(api.Block{0: 3, 1: 3}) {
		t.Error("words that make up for one another are clean")
	}
}

func TestCleanBehindTheList(t *testing.T) {
	l := make([]api.Block, 3)
	l[2][5] = 1
	if !block.Clean(l[:2]...) || block.Clean(l...) || l[2][5] != 1 {
		t.Error("what lies behind the list counts, or the list is another one now")
	}
}

// P19.2

func TestBytesOfKnownBlocks(t *testing.T) {
	rest := strings.Repeat("\x00", 1008)
	for _, c := range []struct {
		b    api.Block
		want string
	}{
		{api.Block{}, strings.Repeat("\x00", 1024)},
		{api.Block{0: 1}, "\x01" + strings.Repeat("\x00", 1023)},
		{api.Block{0: 0x0807060504030201, 1: 0xf0f1f2f3f4f5f6f7}, "\x01\x02\x03\x04\x05\x06\x07\x08\xf7\xf6\xf5\xf4\xf3\xf2\xf1\xf0" + rest},
		{api.Block{126: 1 << 56, 127: 1 << 63}, rest + "\x00\x00\x00\x00\x00\x00\x00\x01\x00\x00\x00\x00\x00\x00\x00\x80"},
	} {
		if s := block.Bytes(c.b); s != c.want {
			t.Errorf("Bytes(%x) is %x", c.b, s)
		}
		if b, e := block.From(c.want); b != c.b || e != api.OK {
			t.Errorf("From(%x) is %x, %d", c.want, b, e)
		}
	}
	for _, b := range some() {
		if s := block.Bytes(b); s != laid(b) {
			t.Fatalf("Bytes(%x) is %x", b, s)
		}
		if got, e := block.From(laid(b)); got != b || e != api.OK {
			t.Fatalf("From the bytes of %x is %x, %d", b, got, e)
		}
	}
}

func TestFromOfEachLength(t *testing.T) {
	lengths := []int{2047, 2048, 2049, 4096, 1 << 16, 1 << 20}
	for n := range 1100 {
		lengths = append(lengths, n)
	}
	for _, n := range lengths {
		b, e := block.From(strings.Repeat("\xa5", n))
		if n == 1024 {
			if e != api.OK || b[0] != 0xa5a5a5a5a5a5a5a5 || b[127] != b[0] {
				t.Errorf("of 1024 bytes: %x, %d", b, e)
			}
		} else if b != (api.Block{}) || e != api.ErrSize {
			t.Errorf("of %d bytes: %x, %d", n, b, e)
		}
	}
}

// TestFromCountsBytes: 1,024 signs of more bytes than one are no block; 1,024 bytes are, whatever they are.
func TestFromCountsBytes(t *testing.T) {
	if b, e := block.From(strings.Repeat("\u00e4", 1024)); b != (api.Block{}) || e != api.ErrSize {
		t.Errorf("%x, %d", b, e)
	}
	if b, e := block.From(strings.Repeat("\u00e4", 512)); e != api.OK || b[5] != 0xa4c3a4c3a4c3a4c3 {
		t.Errorf("%x, %d", b, e)
	}
	if b, e := block.From(strings.Repeat("\xff", 1024)); e != api.OK || b[127] != math.MaxUint64 {
		t.Errorf("%x, %d", b, e)
	}
}

func TestOf(t *testing.T) {
	r := rand.New(rand.NewSource(1904))
	room := make([]uint64, 300)
	for i := range room {
		room[i] = r.Uint64() | 1 // none is 0
	}
	kept := slices.Clone(room)
	for n := range 300 {
		b, e := block.Of(room[:n]...)
		if n > 128 {
			if b != (api.Block{}) || e != api.ErrFull {
				t.Errorf("of %d words: %x, %d", n, b, e)
			}
			continue
		}
		if e != api.OK || !slices.Equal(b[:n], kept[:n]) {
			t.Errorf("of %d words: %x, %d", n, b, e)
		}
		for k := n; k < 128; k++ {
			if b[k] != 0 {
				t.Fatalf("of %d words: word %d is %x", n, k, b[k])
			}
		}
		b[0]++
	}
	if !slices.Equal(room, kept) {
		t.Error("the words are others now")
	}
}

func TestOfFewAndMany(t *testing.T) {
	if b, e := block.Of(); b != (api.Block{}) || e != api.OK {
		t.Errorf("of none: %x, %d", b, e)
	}
	if b, e := block.Of(nil...); b != (api.Block{}) || e != api.OK {
		t.Errorf("of nil: %x, %d", b, e)
	}
	if b, e := block.Of(1, 2); b != (api.Block{0: 1, 1: 2}) || e != api.OK {
		t.Errorf("of two: %x, %d", b, e)
	}
	if b, e := block.Of(0, 0, math.MaxUint64); b != (api.Block{2: math.MaxUint64}) || e != api.OK {
		t.Errorf("of three: %x, %d", b, e)
	}
	for _, n := range []int{129, 256, 1024, 1 << 16} {
		if b, e := block.Of(make([]uint64, n)...); b != (api.Block{}) || e != api.ErrFull { // words that are 0 count, too
			t.Errorf("of %d: %x, %d", n, b, e)
		}
	}
}

// P19.3

// noHalves are numbers that no half of a block has.
func noHalves() []int {
	l := []int{math.MinInt, math.MinInt + 1, math.MinInt32, -1 << 32, -256, -255, 512, 1023, 1024, 1 << 16, math.MaxInt32, 1 << 32, 1<<32 + 1, 1 << 62, math.MaxInt - 1, math.MaxInt}
	for i := 1; i < 140; i++ {
		l = append(l, -i, 255+i)
	}
	return l
}

func TestHalfOfAll(t *testing.T) {
	for _, b := range some() {
		kept, s := b, laid(b)
		for i := range 256 {
			want := binary.LittleEndian.Uint32([]byte(s[4*i:]))
			if x := block.Half(&b, i); x != want {
				t.Fatalf("half %d of %x is %x, not %x", i, b, x, want)
			}
		}
		if b != kept {
			t.Fatal("Half changes the block")
		}
	}
}

func TestHalfOfNone(t *testing.T) {
	full := some()[1]
	for _, i := range noHalves() {
		if x := block.Half(&full, i); x != 0 {
			t.Errorf("half %d is %x", i, x)
		}
		if x := block.Half(nil, i); x != 0 {
			t.Errorf("half %d of nil is %x", i, x)
		}
	}
	for i := range 256 {
		if x := block.Half(nil, i); x != 0 {
			t.Errorf("half %d of nil is %x", i, x)
		}
	}
}

// TestSetHalfOfAll holds the whole block against its bytes, of which just four are others.
func TestSetHalfOfAll(t *testing.T) {
	for n, b := range some()[:24] {
		for i := range 256 {
			for _, x := range []uint32{0, 1, 0x80000000, math.MaxUint32, 0x01020304 + uint32(n)<<9} {
				c, want := b, []byte(laid(b))
				binary.LittleEndian.PutUint32(want[4*i:], x)
				if !block.SetHalf(&c, i, x) {
					t.Fatalf("half %d is not set", i)
				}
				if laid(c) != string(want) {
					t.Fatalf("half %d of %x is to be %x: %x", i, b, x, c)
				}
				if got := block.Half(&c, i); got != x {
					t.Fatalf("half %d is %x, not %x", i, got, x)
				}
			}
		}
	}
}

func TestSetHalfOfNone(t *testing.T) {
	for _, b := range some()[:3] {
		c := b
		for _, i := range noHalves() {
			if block.SetHalf(&c, i, 0x5a5a5a5a) || c != b {
				t.Fatalf("half %d of %x is set: %x", i, b, c)
			}
			if block.SetHalf(nil, i, 7) {
				t.Errorf("half %d of nil is set", i)
			}
		}
	}
	for i := range 256 {
		if block.SetHalf(nil, i, 7) {
			t.Errorf("half %d of nil is set", i)
		}
	}
}

// TestSetHalfOfOneAmongMany: the blocks beside it stay.
func TestSetHalfOfOneAmongMany(t *testing.T) {
	l := make([]api.Block, 3)
	for _, i := range []int{0, 1, 254, 255} {
		if !block.SetHalf(&l[1], i, math.MaxUint32) {
			t.Fatalf("half %d is not set", i)
		}
	}
	if block.SetHalf(&l[1], -1, 9) || block.SetHalf(&l[1], 256, 9) {
		t.Error("a half that is none is set")
	}
	if !block.Clean(l[0], l[2]) || l[1] != (api.Block{0: math.MaxUint64, 127: math.MaxUint64}) {
		t.Errorf("%x", l)
	}
}

func TestExample(t *testing.T) {
	b, e := block.Of(1, 2)
	if e != api.OK || !block.SetHalf(&b, 1, 7) || b != (api.Block{0: 7<<32 + 1, 1: 2}) {
		t.Errorf("%x, %d", b, e)
	}
	for i, want := range []uint32{1, 7, 2, 0, 0} {
		if x := block.Half(&b, i); x != want {
			t.Errorf("half %d is %d", i, x)
		}
	}
}

// P19.4

func TestABlockAndItsBytesAreOne(t *testing.T) {
	for _, b := range some() {
		if c, e := block.From(block.Bytes(b)); c != b || e != api.OK {
			t.Fatalf("%x became %x, %d", b, c, e)
		}
		if c, e := block.Of(b[:]...); c != b || e != api.OK {
			t.Fatalf("%x became %x, %d", b, c, e)
		}
		var c api.Block
		for i := range 256 {
			block.SetHalf(&c, 255-i, block.Half(&b, 255-i))
		}
		if c != b {
			t.Fatalf("%x became %x by halves", b, c)
		}
	}
	r := rand.New(rand.NewSource(1905))
	for range 50 {
		l := make([]byte, 1024)
		r.Read(l)
		b, e := block.From(string(l))
		if s := block.Bytes(b); s != string(l) || e != api.OK {
			t.Fatalf("%x became %x, %d", l, s, e)
		}
	}
}

func TestEachByteHasItsOwnPlace(t *testing.T) {
	for i := range 1024 {
		l := make([]byte, 1024)
		l[i] = 0x81
		b, e := block.From(string(l))
		if e != api.OK || b[i/8] != 0x81<<(8*(i%8)) || block.Bytes(b) != string(l) {
			t.Fatalf("byte %d: %x, %d", i, b, e)
		}
	}
}

func TestWhatIsPutTogetherTwiceIsGone(t *testing.T) {
	l := some()
	for i, b := range l {
		c := l[(i*7+5)%len(l)]
		if block.Xor(b, c, c) != b || block.Xor(c, b, c) != b || block.Xor(block.Xor(b, c), c) != b || block.Xor(b, c) != block.Xor(c, b) {
			t.Fatalf("%x and %x", b, c)
		}
	}
	if x := block.Xor(append(slices.Clone(l), l...)...); !block.Clean(x) {
		t.Errorf("all of them twice are %x", x)
	}
}
