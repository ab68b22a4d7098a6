package sha_test

import (
	"bytes"
	"crypto/sha256"
	"encoding/hex"
	"math"
	"math/big"
	"math/rand"
	"slices"
	"strings"
	"testing"

	"pestle/api"
	"pestle/feed"
	"pestle/root"
	"pestle/sha"
)

// text is n bytes of all kinds, that go on another way every 251 bytes.
func text(n int) string {
	b := make([]byte, n)
	for i := range b {
		b[i] = byte(i%251 + i/251)
	}
	return string(b)
}

// known is the sum of a text by another SHA-256.
func known(s string) string {
	sum := sha256.Sum256([]byte(s))
	return string(sum[:])
}

func digits(s string) string { return hex.EncodeToString([]byte(s)) }

// parted is text in parts of n bytes, the last one of what is left.
func parted(text string, n int) []string {
	var l []string
	for len(text) > n {
		l = append(l, text[:n])
		text = text[n:]
	}
	return append(l, text)
}

// sums tells of a Hash that has not the sum, the rest and the total of all that came.
func sums(t *testing.T, h *sha.Hash, all string) {
	t.Helper()
	if s := h.Sum(); s != known(all) {
		t.Errorf("the sum of %d bytes is %x, not %x", len(all), s, known(all))
	}
	if rest := all[len(all)/64*64:]; string(h.Rest()) != rest || h.Total() != len(all) || h.Size() != 64 {
		t.Errorf("rest %q, total %d, size %d, not %q, %d", h.Rest(), h.Total(), h.Size(), rest, len(all))
	}
}

// behind is the first n bits behind the point of x's root of that degree, by numbers without bounds: the root of x times 2^(n times degree), halved toward.
func behind(x, degree, n int64) uint64 {
	most := new(big.Int).Lsh(big.NewInt(x), uint(n*degree))
	low, high := big.NewInt(0), new(big.Int).Lsh(big.NewInt(x), uint(n))
	for low.Cmp(high) < 0 {
		mid := new(big.Int).Add(low, high)
		mid.Add(mid, big.NewInt(1)).Rsh(mid, 1)
		if new(big.Int).Exp(mid, big.NewInt(degree), nil).Cmp(most) > 0 {
			high = mid.Sub(mid, big.NewInt(1))
		} else {
			low = mid
		}
	}
	return low.Uint64() & (1<<n - 1)
}

func primes(n int) []int64 {
	var l []int64
	for x := int64(2); len(l) < n; x++ {
		if big.NewInt(x).ProbablyPrime(0) {
			l = append(l, x)
		}
	}
	return l
}

// constants is k[i] of the document, of numbers without bounds.
var constants = func() []uint32 {
	var l []uint32
	for _, p := range primes(64) {
		l = append(l, uint32(behind(p, 3, 32)))
	}
	return l
}()

// plain is the state behind a block, step by step as FIPS 180-4 tells it, on numbers without bounds where words are added.
func plain(state [8]uint32, block []byte) [8]uint32 {
	add := func(l ...uint32) uint32 {
		sum := new(big.Int)
		for _, x := range l {
			sum.Add(sum, big.NewInt(int64(x)))
		}
		return uint32(sum.Mod(sum, big.NewInt(1<<32)).Uint64())
	}
	turned := func(x uint32, n int) uint32 { return x>>n | x<<(32-n) }
	var w []uint32
	for i := range 16 {
		b := block[4*i:]
		w = append(w, uint32(b[0])<<24|uint32(b[1])<<16|uint32(b[2])<<8|uint32(b[3]))
	}
	for i := 16; i < 64; i++ {
		w = append(w, add(w[i-16], w[i-7],
			turned(w[i-15], 7)^turned(w[i-15], 18)^w[i-15]>>3,
			turned(w[i-2], 17)^turned(w[i-2], 19)^w[i-2]>>10))
	}
	v := slices.Clone(state[:])
	for i, k := range constants {
		x := add(v[7], turned(v[4], 6)^turned(v[4], 11)^turned(v[4], 25), v[4]&v[5]^(^v[4]&v[6]), k, w[i])
		y := add(turned(v[0], 2)^turned(v[0], 13)^turned(v[0], 22), v[0]&v[1]^v[0]&v[2]^v[1]&v[2])
		v = []uint32{add(x, y), v[0], v[1], v[2], add(v[3], x), v[4], v[5], v[6]}
	}
	for i := range state {
		state[i] = add(state[i], v[i])
	}
	return state
}

// P5.1

func TestInitial(t *testing.T) {
	l := sha.Initial()
	for i, p := range primes(8) {
		if want := uint32(behind(p, 2, 32)); l[i] != want {
			t.Errorf("word %d: %08x, not %08x", i, l[i], want)
		}
		if s, e := root.Square(int(p)); l[i] != uint32(s>>32) || e != api.OK {
			t.Errorf("word %d: %08x, root has %016x", i, l[i], s)
		}
	}
	if l[0] != 0x6a09e667 || l[7] != 0x5be0cd19 {
		t.Errorf("%08x", l)
	}
}

// TestInitialIsNew: what is done to the answer is not seen in the next one.
func TestInitialIsNew(t *testing.T) {
	l := sha.Initial()
	clear(l[:])
	if sha.Initial()[0] != 0x6a09e667 || sha.Of("abc") != known("abc") {
		t.Errorf("%08x", sha.Initial())
	}
}

// P5.2

// TestCompressAbc: the one block of "abc", of FIPS 180-4's example.
func TestCompressAbc(t *testing.T) {
	block := make([]byte, 64)
	copy(block, "abc\x80")
	block[63] = 24
	got, e := sha.Compress(sha.Initial(), block)
	want := [8]uint32{0xba7816bf, 0x8f01cfea, 0x414140de, 0x5dae2223, 0xb00361a3, 0x96177a9c, 0xb410ff61, 0xf20015ad}
	if got != want || e != api.OK {
		t.Errorf("%08x, %d", got, e)
	}
}

// TestCompress: states and blocks of all kinds, those at the ends of what words hold among them.
func TestCompress(t *testing.T) {
	r := rand.New(rand.NewSource(5))
	states := [][8]uint32{{}, sha.Initial(), {1}, {7: 1}, {7: 1 << 31}}
	blocks := [][]byte{make([]byte, 64), bytes.Repeat([]byte{0xff}, 64), []byte(text(64))}
	all := [8]uint32{}
	for i := range all {
		all[i] = math.MaxUint32
	}
	states = append(states, all)
	for range 20 {
		var state [8]uint32
		for i := range state {
			state[i] = r.Uint32()
		}
		block := make([]byte, 64)
		r.Read(block)
		states, blocks = append(states, state), append(blocks, block)
	}
	for i := range 64 { // each byte of the block by itself
		block := make([]byte, 64)
		block[i] = 0x81
		blocks = append(blocks, block)
	}
	for _, state := range states {
		for _, block := range blocks {
			got, e := sha.Compress(state, block)
			if want := plain(state, block); got != want || e != api.OK {
				t.Fatalf("%08x, %x: %08x, %d, not %08x", state, block, got, e, want)
			}
		}
	}
}

func TestCompressRefused(t *testing.T) {
	if got, e := sha.Compress(sha.Initial(), nil); got != [8]uint32{} || e != api.ErrSize {
		t.Errorf("nil: %08x, %d", got, e)
	}
	for n := range 200 {
		got, e := sha.Compress(sha.Initial(), make([]byte, n, n+64))
		if refused := got == [8]uint32{} && e == api.ErrSize; refused != (n != 64) {
			t.Errorf("%d bytes: %08x, %d", n, got, e)
		}
	}
}

// TestCompressChangesNothing: the block is as it was, and so is the state; what lies behind the block does not count.
func TestCompressChangesNothing(t *testing.T) {
	room := []byte(text(200))
	state := sha.Initial()
	first, _ := sha.Compress(state, room[:64])
	if string(room) != text(200) || state != sha.Initial() {
		t.Error("the arguments are changed")
	}
	clear(room[64:])
	if again, e := sha.Compress(state, room[:64]); again != first || e != api.OK {
		t.Errorf("%08x, then %08x", first, again)
	}
}

// P5.3

func TestPad(t *testing.T) {
	for _, c := range []struct {
		total, zeros int
		bits         string
	}{
		{0, 55, "0000000000000000"},
		{1, 54, "0000000000000008"},
		{3, 52, "0000000000000018"},
		{31, 24, "00000000000000f8"},
		{32, 23, "0000000000000100"},
		{54, 1, "00000000000001b0"},
		{55, 0, "00000000000001b8"},
		{56, 63, "00000000000001c0"},
		{57, 62, "00000000000001c8"},
		{63, 56, "00000000000001f8"},
		{64, 55, "0000000000000200"},
		{119, 0, "00000000000003b8"},
		{120, 63, "00000000000003c0"},
		{1<<29 - 1, 56, "00000000fffffff8"},
		{1 << 29, 55, "0000000100000000"},
		{1<<31 - 1, 56, "00000003fffffff8"},
		{1<<61 - 1, 56, "fffffffffffffff8"},
		{1 << 61, 55, "0000000000000000"}, // 2^64 bits
		{1<<61 + 5, 50, "0000000000000028"},
		{api.Most, 55, "0000000000000000"},
		{math.MaxInt, 56, "fffffffffffffff8"},
		{math.MaxInt - 7, 63, "ffffffffffffffc0"},
		{math.MaxInt - 8, 0, "ffffffffffffffb8"},
	} {
		if got, want := digits(sha.Pad(c.total)), "80"+strings.Repeat("00", c.zeros)+c.bits; got != want {
			t.Errorf("%d: %s, not %s", c.total, got, want)
		}
	}
}

func TestPadFills(t *testing.T) {
	for total := range 300 {
		s := sha.Pad(total)
		if (total+len(s))%64 != 0 || len(s) < 9 || len(s) > 72 || s[0] != 128 || strings.Trim(s[1:len(s)-8], "\x00") != "" {
			t.Errorf("%d: %x", total, s)
		}
		if n := new(big.Int).SetBytes([]byte(s[len(s)-8:])); n.Cmp(big.NewInt(int64(8*total))) != 0 {
			t.Errorf("%d bytes are told as %d bits", total, n)
		}
	}
}

func TestPadBelow(t *testing.T) {
	for _, total := range []int{-1, -8, -9, -56, -64, -65, math.MinInt, math.MinInt + 1, -api.Most} {
		if s := sha.Pad(total); s != "" {
			t.Errorf("%d: %x", total, s)
		}
	}
}

// P5.4

func TestOf(t *testing.T) {
	for _, c := range []struct{ text, sum string }{
		{"", "e3b0c44298fc1c149afbf4c8996fb92427ae41e4649b934ca495991b7852b855"},
		{"abc", "ba7816bf8f01cfea414140de5dae2223b00361a396177a9cb410ff61f20015ad"},
		{"abcdbcdecdefdefgefghfghighijhijkijkljklmklmnlmnomnopnopq", "248d6a61d20638b8e5c026930c3e6039a33ce45964ff2167f6ecedd419db06c1"},
		{"abcdefghbcdefghicdefghijdefghijkefghijklfghijklmghijklmnhijklmnoijklmnopjklmnopqklmnopqrlmnopqrsmnopqrstnopqrstu", "cf5b16a778af8380036ce59e7b0492370b249b11e8f07a51afac45037afee9d1"},
		{strings.Repeat("a", 1000000), "cdc76e5c9914fb9281a1c7e284d73e67f1809a48a497200e046d39ccc7112cd0"},
	} {
		if s := digits(sha.Of(c.text)); s != c.sum {
			t.Errorf("%d bytes: %s, not %s", len(c.text), s, c.sum)
		}
	}
}

// TestOfLengths: each length about the ends of blocks.
func TestOfLengths(t *testing.T) {
	for n := range 400 {
		if s := sha.Of(text(n)); s != known(text(n)) || len(s) != 32 {
			t.Errorf("%d bytes: %x, not %x", n, s, known(text(n)))
		}
	}
	for _, n := range []int{1<<16 - 1, 1 << 16, 1<<20 + 55, 1<<20 + 56} {
		if s := sha.Of(text(n)); s != known(text(n)) {
			t.Errorf("%d bytes: %x", n, s)
		}
	}
}

func TestOfNothing(t *testing.T) {
	for _, s := range []string{sha.Of(), sha.Of(""), sha.Of("", "", ""), sha.Of([]string{}...), sha.New().Sum(), sha.New().Add().Sum(), sha.New().Add("", "").Sum()} {
		if s != known("") {
			t.Errorf("%x", s)
		}
	}
}

func TestNew(t *testing.T) {
	h := sha.New()
	sums(t, h, "")
	if h == sha.New() || h.Feed == sha.New().Feed {
		t.Error("no Hash by itself")
	}
	h.Add("abc")
	sums(t, sha.New(), "")
}

// TestAdd: the Hash itself is answered, and the feed's own calls tell what came.
func TestAdd(t *testing.T) {
	h := sha.New()
	if h.Add("ab", "c") != h || h.Add() != h {
		t.Error("not the Hash itself")
	}
	sums(t, h, "abc")
	h.Add(text(61))
	sums(t, h, "abc"+text(61))
	h.Add(text(63)).Add("x").Add(text(130), "", "y")
	sums(t, h, "abc"+text(61)+text(63)+"x"+text(130)+"y")
}

// TestSumChangesNothing: at each place within a block a sum may be asked for any number of times, and more may come behind it.
func TestSumChangesNothing(t *testing.T) {
	all := text(200)
	h := sha.New()
	for n := range all {
		sums(t, h, all[:n])
		sums(t, h, all[:n])
		h.Add(all[n : n+1])
	}
	sums(t, h, all)
}

// TestAddChangesNothing: the parts are as they were, and what lies behind their list's length does not come.
func TestAddChangesNothing(t *testing.T) {
	l := []string{"ab", "c", "behind"}
	if s := sha.New().Add(l[:2]...).Sum(); s != known("abc") {
		t.Errorf("%x", s)
	}
	if s := sha.Of(l[:2]...); s != known("abc") || !slices.Equal(l, []string{"ab", "c", "behind"}) {
		t.Errorf("%x, %q", s, l)
	}
}

// TestClone: what comes to the one is not seen in the other, at each place within a block.
func TestClone(t *testing.T) {
	all := text(150)
	for n := range 140 {
		h := sha.New()
		for i := range n { // byte by byte, so that what is held has room behind it
			h.Add(all[i : i+1])
		}
		c := h.Clone()
		d := c.Clone()
		if c == h || c == d || c.Feed == h.Feed || c.Feed == d.Feed {
			t.Fatal("no Hash by itself")
		}
		sums(t, c, all[:n])
		h.Add(all[n:])
		c.Add("other", text(70))
		sums(t, h, all)
		sums(t, c, all[:n]+"other"+text(70))
		sums(t, d, all[:n])
	}
}

// TestPut: blocks that the feed's own Put takes are not compressed, but they came.
func TestPut(t *testing.T) {
	h := sha.New().Add("abc")
	if l := h.Put(text(61)); len(l) != 1 || string(l[0]) != "abc"+text(61) {
		t.Fatalf("%q", l)
	}
	if h.Total() != 64 || len(h.Rest()) != 0 {
		t.Errorf("total %d, rest %q", h.Total(), h.Rest())
	}
	state, _ := sha.Compress(sha.Initial(), []byte(sha.Pad(64)))
	var want []byte
	for _, x := range state {
		want = append(want, byte(x>>24), byte(x>>16), byte(x>>8), byte(x))
	}
	if s := h.Sum(); s != string(want) {
		t.Errorf("%x, not %x", s, want)
	}
	g := sha.New().Add("ab")
	g.Put("c") // no block is whole: it only came
	sums(t, g, "abc")
}

func TestNil(t *testing.T) {
	var h *sha.Hash
	if h.Add() != nil || h.Add("abc", text(100)) != nil || h.Clone() != nil || h.Sum() != "" {
		t.Error("a nil Hash has more than nothing")
	}
}

// TestNobodyMade: the calls of a Hash that no call made end, and none panics (R1); what they answer is promised nowhere.
func TestNobodyMade(t *testing.T) {
	lazy, _ := feed.New(3, true)
	for _, h := range []*sha.Hash{{}, {Feed: &feed.Feed{}}, {Feed: lazy}} {
		h.Add()
		h.Add("", "abc", text(100))
		h.Clone().Add(text(200)).Sum()
		h.Sum()
	}
}

// P5.5

// TestParts: however bytes are parted, within a call and over calls, with sums asked for between, the sum is the same.
func TestParts(t *testing.T) {
	for _, n := range []int{0, 1, 3, 55, 56, 63, 64, 65, 119, 120, 127, 128, 129, 192, 300} {
		all := text(n)
		for step := 1; step <= n+1; step++ {
			parts := parted(all, step)
			if sha.Of(parts...) != known(all) || sha.Of(append([]string{"", ""}, parts...)...) != known(all) {
				t.Fatalf("%d bytes by %d", n, step)
			}
			h, came := sha.New(), ""
			for _, part := range parts {
				h.Add(part)
				came += part
				if h.Sum() != known(came) {
					t.Fatalf("%d bytes by %d: the sum of %d bytes", n, step, len(came))
				}
			}
			sums(t, h, all)
		}
	}
}

// TestTwoParts: each place at which a text is cut in two, in one call, over two, and with what came ahead cloned.
func TestTwoParts(t *testing.T) {
	all := text(200)
	for n := range len(all) + 1 {
		h := sha.New().Add(all[:n])
		c := h.Clone().Add(all[n:])
		h.Sum()
		if sha.Of(all[:n], all[n:]) != known(all) || h.Add(all[n:]).Sum() != known(all) || c.Sum() != known(all) {
			t.Errorf("cut at %d", n)
		}
	}
}

// TestPartsByChance: parts of all lengths, sums of some of what came between.
func TestPartsByChance(t *testing.T) {
	r := rand.New(rand.NewSource(55))
	for range 200 {
		h, came := sha.New(), ""
		for range r.Intn(12) {
			var parts []string
			for range r.Intn(4) {
				b := make([]byte, r.Intn(150))
				r.Read(b)
				parts = append(parts, string(b))
			}
			came += strings.Join(parts, "")
			h.Add(parts...)
			if r.Intn(2) == 0 {
				h.Sum()
			}
		}
		sums(t, h, came)
	}
}
