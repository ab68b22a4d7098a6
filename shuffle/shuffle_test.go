package shuffle_test

import (
	"crypto/pbkdf2"
	"crypto/sha256"
	"encoding/binary"
	"encoding/hex"
	"math"
	"math/rand"
	"slices"
	"strings"
	"testing"

	"pestle/api"
	"pestle/salsa"
	"pestle/shuffle"
)

// all are all widths that may be.
func all() []int {
	var l []int
	for r := 1; r <= 512; r++ {
		l = append(l, r)
	}
	return l
}

// none are widths that no row may have; of some of them 2 r, or 32 r, wraps around to what another one has.
func none() []int {
	return []int{math.MinInt, math.MinInt + 1, math.MinInt + 8, -1 << 62, -1 << 59, -1 << 32, -513, -512, -2, -1, 0, 513, 514, 1024, 1 << 16, 1 << 31, 1 << 32, 1<<32 + 1, 1 << 58, 1 << 59, 1<<59 + 1, 1 << 60, 1<<62 + 1, math.MaxInt - 1, math.MaxInt}
}

// chance is n words of any kind.
func chance(c *rand.Rand, n int) []uint32 {
	l := make([]uint32, n)
	for i := range l {
		l[i] = c.Uint32()
	}
	return l
}

// same is n words that are all alike.
func same(n int, w uint32) []uint32 {
	l := make([]uint32, n)
	for i := range l {
		l[i] = w
	}
	return l
}

// bytesOf is words, the lowest byte of each first.
func bytesOf(l []uint32) []byte {
	var b []byte
	for _, w := range l {
		b = binary.LittleEndian.AppendUint32(b, w)
	}
	return b
}

// wordsOf is the words that bytesOf makes the bytes of.
func wordsOf(b []byte) []uint32 {
	var l []uint32
	for ; len(b) > 0; b = b[4:] {
		l = append(l, binary.LittleEndian.Uint32(b))
	}
	return l
}

// unhexed is the words whose bytes are hexadecimal digits.
func unhexed(t *testing.T, digits string) []uint32 {
	t.Helper()
	b, err := hex.DecodeString(strings.ReplaceAll(digits, " ", ""))
	if err != nil {
		t.Fatal(err)
	}
	return wordsOf(b)
}

// mixed is what RFC 7914 makes of a row: blocks of bytes, mixed one behind the other, then the even ones, then the odd ones.
func mixed(t *testing.T, l []uint32) []uint32 {
	t.Helper()
	b := bytesOf(l)
	x := slices.Clone(b[len(b)-64:])
	var even, odd []byte
	for i := 0; i < len(b); i += 64 {
		for k := range x {
			x[k] ^= b[i+k]
		}
		y, e := salsa.Bytes(x)
		if e != api.OK {
			t.Fatal(e)
		}
		x = y
		if i/64%2 == 0 {
			even = append(even, x...)
		} else {
			odd = append(odd, x...)
		}
	}
	return wordsOf(append(even, odd...))
}

// mixIs tells of a mixed row that is another one than is wanted, or has an error.
func mixIs(t *testing.T, r int, l, want []uint32) {
	t.Helper()
	if got, e := shuffle.Mix(r, l); !slices.Equal(got, want) || e != api.OK {
		t.Errorf("r %d: %d words, %d, not the %d that are wanted", r, len(got), e, len(want))
	}
}

// refused tells of calls of a row that don't all have one error, with nothing beside it.
func refused(t *testing.T, r int, l []uint32, want api.Errno) {
	t.Helper()
	if e := shuffle.Check(r, l); e != want {
		t.Errorf("Check(%d, %d words): %d, not %d", r, len(l), e, want)
	}
	if m, e := shuffle.Mix(r, l); len(m) != 0 || e != want {
		t.Errorf("Mix(%d, %d words): %d words, %d, not %d", r, len(l), len(m), e, want)
	}
	if n, e := shuffle.Integer(r, l); n != 0 || e != want {
		t.Errorf("Integer(%d, %d words): %d, %d, not %d", r, len(l), n, e, want)
	}
}

// P23.1

func TestCheck(t *testing.T) {
	for _, r := range all() {
		if e := shuffle.Check(r, make([]uint32, 32*r)); e != api.OK {
			t.Errorf("%d: %d", r, e)
		}
	}
}

// TestWidthsRefused: no number of words makes up for a width that may not be, and its error is told ahead of theirs.
func TestWidthsRefused(t *testing.T) {
	for _, r := range none() {
		for _, n := range []int{0, 1, 16, 31, 32, 33, 64, 32 * 512, 32 * 513, 32 * 514, 32 * 1024} {
			refused(t, r, same(n, 0xffffffff), api.ErrParams)
		}
		refused(t, r, nil, api.ErrParams)
	}
}

// TestSizesRefused: any other number of words, whole blocks and halves of rows among them.
func TestSizesRefused(t *testing.T) {
	long := same(32*514, 7)
	for _, r := range []int{1, 2, 3, 4, 8, 511, 512} {
		refused(t, r, nil, api.ErrSize)
		for _, n := range []int{0, 1, 2, 8 * r, 15, 16, 16 * r, 17, 32*r - 32, 32*r - 16, 32*r - 2, 32*r - 1, 32*r + 1, 32*r + 2, 32*r + 16, 32*r + 32, len(long)} {
			refused(t, r, long[:n], api.ErrSize)
		}
	}
	for n := range 300 {
		if n != 32 {
			refused(t, 1, long[:n], api.ErrSize)
		}
		if n != 160 {
			refused(t, 5, long[:n], api.ErrSize)
		}
	}
}

// TestPlaces: blocks 2 i and 2 i + 1, for all widths.
func TestPlaces(t *testing.T) {
	for _, r := range all() {
		l, e := shuffle.Places(r)
		if len(l) != 2*r || e != api.OK {
			t.Fatalf("%d: %d places, %d", r, len(l), e)
		}
		for i := range r {
			if l[2*i] != i || l[2*i+1] != r+i {
				t.Errorf("%d: blocks %d and %d go to %d and %d", r, 2*i, 2*i+1, l[2*i], l[2*i+1])
			}
		}
	}
}

func TestPlacesKnown(t *testing.T) {
	for r, want := range map[int][]int{1: {0, 1}, 2: {0, 2, 1, 3}, 3: {0, 3, 1, 4, 2, 5}, 4: {0, 4, 1, 5, 2, 6, 3, 7}} {
		if l, e := shuffle.Places(r); !slices.Equal(l, want) || e != api.OK {
			t.Errorf("%d: %d, %d, not %d", r, l, e, want)
		}
	}
}

func TestPlacesRefused(t *testing.T) {
	for _, r := range none() {
		if l, e := shuffle.Places(r); len(l) != 0 || e != api.ErrParams {
			t.Errorf("%d: %d places, %d", r, len(l), e)
		}
	}
}

// TestPlacesAreNew: what a caller does to an answer is not seen in the next one, nor in a mixed row.
func TestPlacesAreNew(t *testing.T) {
	l, _ := shuffle.Places(3)
	clear(l)
	clear(l[:cap(l)])
	if again, e := shuffle.Places(3); !slices.Equal(again, []int{0, 3, 1, 4, 2, 5}) || e != api.OK {
		t.Error(again, e)
	}
	row := chance(rand.New(rand.NewSource(2300)), 96)
	mixIs(t, 3, row, mixed(t, row))
}

// P23.2

// known is the example of RFC 7914: a row of r 1, and what it is mixed to.
func known(t *testing.T) ([]uint32, []uint32) {
	t.Helper()
	in := unhexed(t, "f7ce0b65 3d2d72a4 108cf5ab e912ffdd 777616db bb27a70e 8204f3ae 2d0f6fad"+
		"89f68f48 11d1e87b cc3bd740 0a9ffd29 094f0184 639574f3 9ae5a131 5217bcd7"+
		"89499144 7213bb22 6c25b54d a86370fb cd984380 374666bb 8ffcb5bf 40c254b0"+
		"67d27c51 ce4ad5fe d829c90b 505a571b 7f4d1cad 6a523cda 770e67bc eaaf7e89")
	out := unhexed(t, "a41f859c 6608cc99 3b81cacb 020cef05 044b2181 a2fd337d fd7b1c63 96682f29"+
		"b4393168 e3c9e6bc fe6bc5b7 a06d96ba e424cc10 2c91745c 24ad673d c7618f81"+
		"20edc975 323881a8 0540f64c 162dcd3c 21077cfe 5f8d5fe2 b1a4168f 953678b7"+
		"7d3b3d80 3b60e4ab 920996e5 9b4d53b6 5d2a2258 77d5edf5 842cb9f1 4eefe425")
	return in, out
}

func TestMixKnown(t *testing.T) {
	in, out := known(t)
	mixIs(t, 1, in, out)
	for _, r := range []int{1, 2, 3, 512} {
		mixIs(t, r, make([]uint32, 32*r), make([]uint32, 32*r))
	}
}

func TestMix(t *testing.T) {
	c := rand.New(rand.NewSource(2301))
	for _, r := range append(all()[:40], 63, 64, 65, 127, 128, 255, 256, 257, 510, 511, 512) {
		for range 3 {
			l := chance(c, 32*r)
			mixIs(t, r, l, mixed(t, l))
		}
		for _, w := range []uint32{1, 0x80000000, 0x01020304, math.MaxUint32} {
			l := same(32*r, w)
			mixIs(t, r, l, mixed(t, l))
		}
	}
}

// TestMixEachWord: a word alone, at each place of some rows.
func TestMixEachWord(t *testing.T) {
	for _, r := range []int{1, 2, 3, 5} {
		for i := range 32 * r {
			for _, w := range []uint32{1, 0x80000000, 0x01020304} {
				l := make([]uint32, 32*r)
				l[i] = w
				mixIs(t, r, l, mixed(t, l))
			}
		}
	}
}

// TestMixSteps: the document's own steps, with the places of Places.
func TestMixSteps(t *testing.T) {
	c := rand.New(rand.NewSource(2302))
	for _, r := range []int{1, 2, 3, 4, 7, 8, 16, 33, 512} {
		l := chance(c, 32*r)
		places, e := shuffle.Places(r)
		if e != api.OK {
			t.Fatal(e)
		}
		want := make([]uint32, 32*r)
		var x [16]uint32
		copy(x[:], l[32*r-16:])
		for i, to := range places {
			for k := range 16 {
				x[k] ^= l[16*i+k]
			}
			x = salsa.Eight(x)
			for k := range 16 {
				want[16*to+k] = x[k]
			}
		}
		mixIs(t, r, l, want)
	}
}

// TestMixHangs: a block is mixed into itself and those behind it; the last one into all.
func TestMixHangs(t *testing.T) {
	const r = 4
	l := chance(rand.New(rand.NewSource(2303)), 32*r)
	first, _ := shuffle.Mix(r, l)
	places, _ := shuffle.Places(r)
	for i := range places {
		other := slices.Clone(l)
		other[16*i+5] ^= 1 << 9
		second, e := shuffle.Mix(r, other)
		if e != api.OK || len(first) != 32*r || len(second) != 32*r {
			t.Fatal(len(first), len(second), e)
		}
		for j, to := range places {
			stays := slices.Equal(first[16*to:16*to+16], second[16*to:16*to+16])
			if stays != (j < i && i < 2*r-1) {
				t.Errorf("block %d is changed: of block %d it is %t that it stays", i, j, stays)
			}
		}
	}
}

// TestMixLeavesArguments: what a call is given stays, and what lies behind a list's length is neither read, nor changed, nor handed out.
func TestMixLeavesArguments(t *testing.T) {
	for _, r := range []int{1, 2, 9} {
		long := chance(rand.New(rand.NewSource(2304)), 32*r+200)
		kept := slices.Clone(long)
		want := mixed(t, long[:32*r])
		got, e := shuffle.Mix(r, long[:32*r])
		if !slices.Equal(got, want) || e != api.OK {
			t.Errorf("r %d: another row, %d", r, e)
		}
		whole := got[:cap(got)]
		if slices.ContainsFunc(whole[len(got):], func(w uint32) bool { return w != 0 }) {
			t.Errorf("r %d: something lies behind the answer", r)
		}
		refused(t, r, long[:32*r-1], api.ErrSize)
		refused(t, r, long[:0], api.ErrSize)
		shuffle.Integer(r, long[:32*r])
		if !slices.Equal(long, kept) {
			t.Errorf("r %d: the words are changed", r)
		}
	}
}

// TestMixIsNew: the answer shares nothing with the argument, nor with the next answer.
func TestMixIsNew(t *testing.T) {
	in, out := known(t)
	got, _ := shuffle.Mix(1, in)
	again, _ := shuffle.Mix(1, in)
	clear(in)
	if !slices.Equal(got, out) {
		t.Error("the answer is the argument's own memory")
	}
	clear(got)
	if !slices.Equal(again, out) {
		t.Error("two answers are one")
	}
}

// rowMixed is RFC 7914's way of a row by way of 2^log rows, by the calls of this layer.
func rowMixed(t *testing.T, r, log int, x []uint32) []uint32 {
	t.Helper()
	next := func(l []uint32) []uint32 {
		m, e := shuffle.Mix(r, l)
		if e != api.OK {
			t.Fatal(e)
		}
		return m
	}
	var rows [][]uint32
	for range 1 << log {
		rows = append(rows, x)
		x = next(x)
	}
	for range 1 << log {
		n, e := shuffle.Integer(r, x)
		if e != api.OK {
			t.Fatal(e)
		}
		x = slices.Clone(x)
		for k, w := range rows[n%(1<<log)] {
			x[k] ^= w
		}
		x = next(x)
	}
	return x
}

// scrypt is RFC 7914's key, with rows mixed by the calls of this layer and another PBKDF2.
func scrypt(t *testing.T, word, salt string, log, r, p, bytes int) string {
	t.Helper()
	rows, err := pbkdf2.Key(sha256.New, word, []byte(salt), 1, 128*r*p)
	if err != nil {
		t.Fatal(err)
	}
	var out []byte
	for i := range p {
		out = append(out, bytesOf(rowMixed(t, r, log, wordsOf(rows[128*r*i:128*r*(i+1)])))...)
	}
	key, err := pbkdf2.Key(sha256.New, word, out, 1, bytes)
	if err != nil {
		t.Fatal(err)
	}
	return hex.EncodeToString(key)
}

// TestScryptKnown: keys of RFC 7914 (the first two), and of another scrypt, at widths that are even, odd, and the greatest.
func TestScryptKnown(t *testing.T) {
	for _, c := range []struct {
		word, salt string
		log, r, p  int
		key        string
	}{
		{"", "", 4, 1, 1, "77d6576238657b203b19ca42c18a0497f16b4844e3074ae8dfdffa3fede21442fcd0069ded0948f8326a753a0fc81f17e8d3e0fb2e0d3628cf35e20c38d18906"},
		{"password", "NaCl", 10, 8, 16, "fdbabe1c9d3472007856e7190d01e9fe7c6ad7cbc8237830e77376634b3731622eaf30d92e22a3886ff109279d9830dac727afb94a83ee6d8360cbdfa2cc0640"},
		{"password", "salt", 1, 1, 1, "6d1bb878eee9ce4a7b77d7a44103574d4cbfe3c15ae3940f0ffe75cd5e1e0afa"},
		{"password", "salt", 2, 2, 1, "8801faa3b6c74b956e667cea01abe02a96a92ebd244f970c8337cd8a1614c077"},
		{"password", "salt", 3, 3, 1, "1f208ab7733463e703de6d843cc90eff51bcb1bcb5880a65797c0a59c9483393"},
		{"password", "salt", 3, 4, 2, "0a2d58cc752c3ba3e9a1ccebd89b2cff5b9eb514f8b1a9746ec19d70a9b4b736"},
		{"password", "salt", 4, 5, 1, "f7a384f8bc45b6460e33da77e801562f59b8326f88d64d92bb15e886c327350d"},
		{"password", "salt", 5, 7, 1, "951f67cff79bf4af4c19c54bb2376962fb2db325a9160fb22dbe4df3b7b9954e"},
		{"password", "salt", 2, 31, 1, "6f67c02200470018ed9b99537613d742ac61fcea971b95ee28fc55125d1d0999"},
		{"password", "salt", 2, 511, 1, "ef1930c9695bebecadfc46fbcce2e34f959949305cccf945890f3d00273aee51"},
		{"password", "salt", 1, 512, 1, "7b52d23cac25164bc74e7debd336ffd0bd665ccbcfde9c36dc6825e2decc1bd1"},
	} {
		if key := scrypt(t, c.word, c.salt, c.log, c.r, c.p, len(c.key)/2); key != c.key {
			t.Errorf("log %d, r %d, p %d: %s, not %s", c.log, c.r, c.p, key, c.key)
		}
	}
}

// P23.3

// integerIs tells of a number that is another one than is wanted, or has an error.
func integerIs(t *testing.T, r int, l []uint32, want uint64) {
	t.Helper()
	if n, e := shuffle.Integer(r, l); n != want || e != api.OK {
		t.Errorf("r %d: %x, %d, not %x", r, n, e, want)
	}
}

func TestInteger(t *testing.T) {
	c := rand.New(rand.NewSource(2305))
	for _, r := range all() {
		l := chance(c, 32*r)
		at := 32*r - 16
		for _, pair := range [][2]uint32{{0, 0}, {3, 1}, {1, 0}, {0, 1}, {0x80000000, 0}, {0, 0x80000000}, {math.MaxUint32, 0}, {0, math.MaxUint32}, {math.MaxUint32, math.MaxUint32}, {0x04030201, 0x08070605}, {c.Uint32(), c.Uint32()}} {
			l[at], l[at+1] = pair[0], pair[1]
			integerIs(t, r, l, uint64(pair[1])<<32+uint64(pair[0]))
		}
	}
}

// TestIntegerBits: each bit of the two words, alone.
func TestIntegerBits(t *testing.T) {
	for _, r := range []int{1, 2, 3, 512} {
		for bit := range 64 {
			l := make([]uint32, 32*r)
			l[32*r-16+bit/32] = 1 << (bit % 32)
			integerIs(t, r, l, 1<<bit)
		}
	}
}

// TestIntegerOfTwoWords: no other word of a row counts.
func TestIntegerOfTwoWords(t *testing.T) {
	for _, r := range []int{1, 2, 3, 8, 512} {
		l := same(32*r, math.MaxUint32)
		l[32*r-16], l[32*r-15] = 0, 0
		integerIs(t, r, l, 0)
		integerIs(t, r, append(slices.Clone(l), 5, 6, 7)[:32*r], 0)
	}
}

// P23.4

// TestPlacesOnce: each place of a row is gone to, and once.
func TestPlacesOnce(t *testing.T) {
	for _, r := range all() {
		l, e := shuffle.Places(r)
		if e != api.OK {
			t.Fatal(r, e)
		}
		times := make([]int, 2*r)
		for _, to := range l {
			if to < 0 || to >= 2*r {
				t.Fatalf("%d: no place %d", r, to)
			}
			times[to]++
		}
		for to, n := range times {
			if n != 1 {
				t.Errorf("%d: place %d is gone to %d times", r, to, n)
			}
		}
	}
}
