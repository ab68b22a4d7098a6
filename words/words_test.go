package words_test

import (
	"bytes"
	"math"
	"math/bits"
	"slices"
	"strings"
	"testing"

	"pestle/api"
	"pestle/words"
)

// words32 and words64 have all bytes unlike within a word, each bit alone, and the edges.
func words32() []uint32 {
	l := []uint32{0, 1, 0x01020304, 0xf0e1d2c3, 0x80000000, 0x80000001, math.MaxUint32}
	for i := range 32 {
		l = append(l, 1<<i, ^(uint32(1) << i))
	}
	return l
}

func words64() []uint64 {
	l := []uint64{0, 1, 0x0102030405060708, 0xf0e1d2c3b4a59687, 1 << 63, 1<<63 + 1, math.MaxUint64, math.MaxUint32, math.MaxUint32 + 1}
	for i := range 64 {
		l = append(l, 1<<i, ^(uint64(1) << i))
	}
	return l
}

func same(t *testing.T, what string, got []byte, want string) {
	t.Helper()
	if string(got) != want {
		t.Errorf("%s: %x, not %x", what, got, want)
	}
}

// P1.1

func TestBytesOfWords(t *testing.T) {
	same(t, "Little32", words.Little32(1, 0x01020304), "\x01\x00\x00\x00\x04\x03\x02\x01")
	same(t, "Big32", words.Big32(1, 0x01020304), "\x00\x00\x00\x01\x01\x02\x03\x04")
	same(t, "Little64", words.Little64(1, 0x0102030405060708), "\x01\x00\x00\x00\x00\x00\x00\x00\x08\x07\x06\x05\x04\x03\x02\x01")
	same(t, "Big64", words.Big64(1, 0x0102030405060708), "\x00\x00\x00\x00\x00\x00\x00\x01\x01\x02\x03\x04\x05\x06\x07\x08")
	same(t, "Little32, high bits", words.Little32(0xf0e1d2c3), "\xc3\xd2\xe1\xf0")
	same(t, "Big32, high bits", words.Big32(0xf0e1d2c3), "\xf0\xe1\xd2\xc3")
	same(t, "Little64, high bits", words.Little64(0xf0e1d2c3b4a59687), "\x87\x96\xa5\xb4\xc3\xd2\xe1\xf0")
	same(t, "Big64, high bits", words.Big64(0xf0e1d2c3b4a59687), "\xf0\xe1\xd2\xc3\xb4\xa5\x96\x87")
	same(t, "Little32, three", words.Little32(3, 2, 1), "\x03\x00\x00\x00\x02\x00\x00\x00\x01\x00\x00\x00")
	same(t, "Big32, all bits", words.Big32(math.MaxUint32, 0), "\xff\xff\xff\xff\x00\x00\x00\x00")
}

func TestBytesOfNoWords(t *testing.T) {
	for i, b := range [][]byte{
		words.Little32(), words.Big32(), words.Little64(), words.Big64(),
		words.Little32(nil...), words.Big32([]uint32{}...), words.Little64(nil...), words.Big64([]uint64{}...),
	} {
		if len(b) != 0 {
			t.Error(i, b)
		}
	}
}

// TestEachByteOfWords holds every byte against a shift of its own, of many words at once.
func TestEachByteOfWords(t *testing.T) {
	l, m := words32(), words64()
	low, high := words.Little32(l...), words.Big32(l...)
	if len(low) != 4*len(l) || len(high) != 4*len(l) {
		t.Fatal(len(low), len(high))
	}
	for i, x := range l {
		for k := range 4 {
			want := byte(x >> (8 * k))
			if low[4*i+k] != want || high[4*i+3-k] != want {
				t.Errorf("%x: byte %d is %x, %x, not %x", x, k, low[4*i+k], high[4*i+3-k], want)
			}
		}
	}
	low, high = words.Little64(m...), words.Big64(m...)
	if len(low) != 8*len(m) || len(high) != 8*len(m) {
		t.Fatal(len(low), len(high))
	}
	for i, x := range m {
		for k := range 8 {
			want := byte(x >> (8 * k))
			if low[8*i+k] != want || high[8*i+7-k] != want {
				t.Errorf("%x: byte %d is %x, %x, not %x", x, k, low[8*i+k], high[8*i+7-k], want)
			}
		}
	}
}

// P1.2

func TestWordsOfBytes(t *testing.T) {
	b := []byte{1, 0, 0, 0, 4, 3, 2, 1}
	if l, e := words.Take32(b); e != api.OK || !slices.Equal(l, []uint32{1, 0x01020304}) {
		t.Errorf("%x %d", l, e)
	}
	if l, e := words.TakeBig32(b); e != api.OK || !slices.Equal(l, []uint32{0x01000000, 0x04030201}) {
		t.Errorf("%x %d", l, e)
	}
	if l, e := words.Take64(b); e != api.OK || !slices.Equal(l, []uint64{0x0102030400000001}) {
		t.Errorf("%x %d", l, e)
	}
	b = []byte{0xf0, 0xe1, 0xd2, 0xc3, 0xb4, 0xa5, 0x96, 0x87, 8, 7, 6, 5, 4, 3, 2, 1}
	if l, e := words.Take32(b); e != api.OK || !slices.Equal(l, []uint32{0xc3d2e1f0, 0x8796a5b4, 0x05060708, 0x01020304}) {
		t.Errorf("%x %d", l, e)
	}
	if l, e := words.TakeBig32(b); e != api.OK || !slices.Equal(l, []uint32{0xf0e1d2c3, 0xb4a59687, 0x08070605, 0x04030201}) {
		t.Errorf("%x %d", l, e)
	}
	if l, e := words.Take64(b); e != api.OK || !slices.Equal(l, []uint64{0x8796a5b4c3d2e1f0, 0x0102030405060708}) {
		t.Errorf("%x %d", l, e)
	}
}

// TestSizes: of each number of bytes whether they are whole words, and how many; nothing beside an error.
func TestSizes(t *testing.T) {
	for n := range 130 {
		b := bytes.Repeat([]byte{0x5a}, n)
		want4, want8, e4, e8 := n/4, n/8, api.OK, api.OK
		if n%4 != 0 {
			want4, e4 = 0, api.ErrSize
		}
		if n%8 != 0 {
			want8, e8 = 0, api.ErrSize
		}
		if l, e := words.Take32(b); len(l) != want4 || e != e4 {
			t.Error("Take32", n, len(l), e)
		}
		if l, e := words.TakeBig32(b); len(l) != want4 || e != e4 {
			t.Error("TakeBig32", n, len(l), e)
		}
		if l, e := words.Take64(b); len(l) != want8 || e != e8 {
			t.Error("Take64", n, len(l), e)
		}
	}
}

func TestWordsOfNoBytes(t *testing.T) {
	for _, b := range [][]byte{nil, {}, make([]byte, 0, 8)} {
		l, e := words.Take32(b)
		m, f := words.TakeBig32(b)
		n, g := words.Take64(b)
		if len(l)+len(m)+len(n) != 0 || e != api.OK || f != api.OK || g != api.OK {
			t.Error(l, e, m, f, n, g)
		}
	}
}

// TestBehindTheLength: what lies behind a list's length makes no word of it, and no part of one.
func TestBehindTheLength(t *testing.T) {
	b := []byte{1, 2, 3, 4, 5, 6, 7, 8, 9, 10, 11, 12, 13, 14, 15, 16}
	kept := bytes.Clone(b)
	if l, e := words.Take32(b[:4]); e != api.OK || !slices.Equal(l, []uint32{0x04030201}) {
		t.Error(l, e)
	}
	if l, e := words.TakeBig32(b[:3]); e != api.ErrSize || len(l) != 0 {
		t.Error(l, e)
	}
	if l, e := words.Take64(b[:8]); e != api.OK || !slices.Equal(l, []uint64{0x0807060504030201}) {
		t.Error(l, e)
	}
	if l, e := words.Take64(b[:12]); e != api.ErrSize || len(l) != 0 {
		t.Error(l, e)
	}
	if !bytes.Equal(b, kept) {
		t.Error(b)
	}
	l := []uint32{1, 2, 3}
	if x := words.Little32(l[:1]...); len(x) != 4 || !slices.Equal(l, []uint32{1, 2, 3}) {
		t.Error(x, l)
	}
}

// P1.3

// turned is the word of the lowest n bits of x whose bit i has gone to place i+by, place by place.
func turned(x uint64, n, by int) uint64 {
	by %= n
	if by < 0 {
		by += n
	}
	var y uint64
	for i := range n {
		y |= x >> i & 1 << ((i + by) % n)
	}
	return y
}

func TestTurns(t *testing.T) {
	for _, c := range []struct {
		x    uint32
		n    int
		l, r uint32
	}{
		{0x80000001, 1, 3, 0xc0000000},
		{3, 1, 6, 0x80000001},
		{3, -1, 0x80000001, 6},
		{0x01020304, 8, 0x02030401, 0x04010203},
		{0x01020304, 0, 0x01020304, 0x01020304},
		{0x01020304, 32, 0x01020304, 0x01020304},
		{0x01020304, -32, 0x01020304, 0x01020304},
		{0x01020304, 40, 0x02030401, 0x04010203},
		{0x01020304, -8, 0x04010203, 0x02030401},
		{0x01020304, -24, 0x02030401, 0x04010203},
		{0x01020304, 64 + 31, 0x00810182, 0x02040608},
	} {
		if l, r := words.Left32(c.x, c.n), words.Right32(c.x, c.n); l != c.l || r != c.r {
			t.Errorf("%x by %d: %x and %x, not %x and %x", c.x, c.n, l, r, c.l, c.r)
		}
	}
	for _, c := range []struct {
		x uint64
		n int
		r uint64
	}{
		{1, 1, 1 << 63},
		{5, 64, 5},
		{5, 0, 5},
		{5, -64, 5},
		{1, -1, 2},
		{1 << 63, -1, 1},
		{0x0102030405060708, 8, 0x0801020304050607},
		{0x0102030405060708, 32, 0x0506070801020304},
		{0x0102030405060708, -8, 0x0203040506070801},
		{0x0102030405060708, 136, 0x0801020304050607},
	} {
		if r := words.Right64(c.x, c.n); r != c.r {
			t.Errorf("%x by %d: %x, not %x", c.x, c.n, r, c.r)
		}
	}
}

// places has every number of places about the words' bits, either side of 0, and the ints' ends.
func places() []int {
	l := []int{math.MinInt, math.MinInt + 1, math.MinInt + 31, math.MinInt + 33, math.MinInt + 63, math.MinInt32, math.MinInt32 - 1, math.MinInt32 + 1, math.MaxInt32, math.MaxInt32 + 1, math.MaxUint32, math.MaxInt - 1, math.MaxInt, 1<<40 + 7, -1<<40 - 7}
	for n := -260; n <= 260; n++ {
		l = append(l, n)
	}
	return l
}

// reversed is the places the other way round, within n bits: -math.MinInt is none.
func reversed(by, n int) int { return n - by%n }

func TestTurnsByAnyPlaces(t *testing.T) {
	for _, n := range places() {
		for _, x := range words32() {
			if y, want := words.Left32(x, n), uint32(turned(uint64(x), 32, n)); y != want {
				t.Fatalf("Left32(%x, %d): %x, not %x", x, n, y, want)
			}
			if y, want := words.Right32(x, n), uint32(turned(uint64(x), 32, reversed(n, 32))); y != want {
				t.Fatalf("Right32(%x, %d): %x, not %x", x, n, y, want)
			}
		}
		for _, x := range words64() {
			if y, want := words.Right64(x, n), turned(x, 64, reversed(n, 64)); y != want {
				t.Fatalf("Right64(%x, %d): %x, not %x", x, n, y, want)
			}
		}
	}
}

// TestTurnsLoseNothing: a turn has the bits it had, and the other one takes it back.
func TestTurnsLoseNothing(t *testing.T) {
	for _, n := range places() {
		for _, x := range words32() {
			if y := words.Left32(x, n); bits.OnesCount32(y) != bits.OnesCount32(x) || words.Right32(y, n) != x {
				t.Fatalf("%x by %d", x, n)
			}
		}
		for _, x := range words64() {
			if y := words.Right64(x, n); bits.OnesCount64(y) != bits.OnesCount64(x) || words.Right64(y, reversed(n, 64)) != x {
				t.Fatalf("%x by %d", x, n)
			}
		}
	}
}

// P1.4

func TestXor(t *testing.T) {
	long := strings.Repeat("\x0f\xf0\x55\xaa", 300)
	for _, c := range []struct {
		l    []string
		want string
	}{
		{nil, ""},
		{[]string{}, ""},
		{[]string{""}, ""},
		{[]string{"", "", ""}, ""},
		{[]string{"abc"}, "abc"},
		{[]string{"\x00\xff\x80"}, "\x00\xff\x80"},
		{[]string{"abc", "abc"}, "\x00\x00\x00"},
		{[]string{"ab", "  ", "AB"}, "\x00\x00"},
		{[]string{"\x01\x10", "\x02\x20", "\x04\x40", "\x88\x08"}, "\x8f\x78"},
		{[]string{"\x01\x02\x03\x04", "\xf0\xff\x00\x80"}, "\xf1\xfd\x03\x84"},
		{[]string{"abc", "abc", "abc"}, "abc"},
		{[]string{"\xc3\xa4", "\x00\x00"}, "\xc3\xa4"},
		{[]string{long, strings.Repeat("\xff", 1200)}, strings.Repeat("\xf0\x0f\xaa\x55", 300)},
	} {
		if s, e := words.Xor(c.l...); s != c.want || e != api.OK {
			t.Errorf("%q: %q %d, not %q", c.l, s, e, c.want)
		}
	}
}

// TestXorEachByte: every byte with every other one, in texts of all bytes.
func TestXorEachByte(t *testing.T) {
	all := make([]byte, 256)
	for i := range all {
		all[i] = byte(i)
	}
	for k := range 256 {
		s, e := words.Xor(string(all), strings.Repeat(string([]byte{byte(k)}), 256))
		if len(s) != 256 || e != api.OK {
			t.Fatal(k, len(s), e)
		}
		for i := range 256 {
			if s[i] != byte(i)^byte(k) {
				t.Fatal(i, k, s[i])
			}
		}
	}
}

func TestXorOfUnlikeLengths(t *testing.T) {
	for _, l := range [][]string{
		{"a", ""},
		{"", "a"},
		{"ab", "abc"},
		{"abc", "ab"},
		{"ab", "ab", "a"},
		{"ab", "ab", "abc"},
		{"ab", "a", "ab"},
		{"a", "ab", "ab"},
		{"", "", "a"},
		{"a", "bc", "d"},
		{"ab", "ab", "ab", "ab", ""},
		{"a", "bc", "def"},
	} {
		if s, e := words.Xor(l...); s != "" || e != api.ErrSize {
			t.Errorf("%q: %q %d", l, s, e)
		}
	}
}

// P1.5

func TestTakenBackAsWritten(t *testing.T) {
	for n := range len(words32()) + 1 {
		l := words32()[:n]
		if x, e := words.Take32(words.Little32(l...)); e != api.OK || !slices.Equal(x, l) {
			t.Errorf("Little32 of %x: %x %d", l, x, e)
		}
		if x, e := words.TakeBig32(words.Big32(l...)); e != api.OK || !slices.Equal(x, l) {
			t.Errorf("Big32 of %x: %x %d", l, x, e)
		}
	}
	for n := range len(words64()) + 1 {
		l := words64()[:n]
		if x, e := words.Take64(words.Little64(l...)); e != api.OK || !slices.Equal(x, l) {
			t.Errorf("Little64 of %x: %x %d", l, x, e)
		}
	}
}

// TestWrittenBackAsTaken: bytes that are whole words are those of the words that are taken of them.
func TestWrittenBackAsTaken(t *testing.T) {
	b := make([]byte, 0, 512)
	for i := range 512 {
		b = append(b, byte(i*7+i/256))
	}
	for n := 0; n <= len(b); n += 8 {
		l, e := words.Take32(b[:n])
		m, f := words.TakeBig32(b[:n])
		k, g := words.Take64(b[:n])
		if e != api.OK || f != api.OK || g != api.OK {
			t.Fatal(n, e, f, g)
		}
		if !bytes.Equal(words.Little32(l...), b[:n]) || !bytes.Equal(words.Big32(m...), b[:n]) || !bytes.Equal(words.Little64(k...), b[:n]) {
			t.Error(n)
		}
		slices.Reverse(k) // the highest byte first is the other way round in all
		x := words.Big64(k...)
		slices.Reverse(x)
		if !bytes.Equal(x, b[:n]) {
			t.Error("Big64", n)
		}
	}
}

// R2: answers are new, and what is given stays as it is.

func TestNothingShared(t *testing.T) {
	l, m := words32(), words64()
	b := []byte("0123456789abcdef")
	texts := []string{"ab", "cd", "ef"}
	first := [][]byte{words.Little32(l...), words.Big32(l...), words.Little64(m...), words.Big64(m...)}
	for _, x := range first {
		for i := range x {
			x[i] = 0xee
		}
	}
	second := [][]byte{words.Little32(l...), words.Big32(l...), words.Little64(m...), words.Big64(m...)}
	for i := range second {
		if bytes.Equal(first[i], second[i]) {
			t.Error("shared by answers", i)
		}
	}
	x, _ := words.Take32(b)
	y, _ := words.TakeBig32(b)
	z, _ := words.Take64(b)
	for _, l := range [][]uint32{x, y} {
		for i := range l {
			l[i] = 0
		}
	}
	for i := range z {
		z[i] = 0
	}
	u, _ := words.Take32(b)
	v, _ := words.TakeBig32(b)
	w, _ := words.Take64(b)
	words.Xor(texts...)
	if slices.Equal(x, u) || slices.Equal(y, v) || slices.Equal(z, w) {
		t.Error("shared by words")
	}
	if !slices.Equal(l, words32()) || !slices.Equal(m, words64()) || string(b) != "0123456789abcdef" || !slices.Equal(texts, []string{"ab", "cd", "ef"}) {
		t.Error("arguments changed")
	}
}
