package blake_test

import (
	"bytes"
	"encoding/binary"
	"encoding/hex"
	"math"
	"math/big"
	"math/bits"
	"math/rand"
	"slices"
	"strings"
	"testing"

	"pestle/api"
	"pestle/blake"
	"pestle/feed"
	"pestle/root"
)

// text is n bytes of all kinds, that go on another way every 251 bytes.
func text(n int) string {
	b := make([]byte, n)
	for i := range b {
		b[i] = byte(i%251 + i/251)
	}
	return string(b)
}

func digits(s string) string { return hex.EncodeToString([]byte(s)) }

// parted is text in parts of n bytes, the last one of what is left.
func parted(text string, n int) []string {
	var l []string
	for len(text) > n {
		l = append(l, text[:n])
		text = text[n:]
	}
	return append(l, text)
}

// sigma is RFC 7693's table of the orders, in its own numbers.
var sigma = [10][16]int{
	{0, 1, 2, 3, 4, 5, 6, 7, 8, 9, 10, 11, 12, 13, 14, 15},
	{14, 10, 4, 8, 9, 15, 13, 6, 1, 12, 0, 2, 11, 7, 5, 3},
	{11, 8, 12, 0, 5, 2, 15, 13, 10, 14, 3, 6, 7, 1, 9, 4},
	{7, 9, 3, 1, 13, 12, 11, 14, 2, 6, 5, 10, 4, 0, 15, 8},
	{9, 0, 5, 7, 2, 4, 10, 15, 14, 1, 11, 12, 6, 8, 3, 13},
	{2, 12, 6, 10, 0, 11, 8, 3, 4, 13, 7, 5, 15, 14, 1, 9},
	{12, 5, 1, 15, 14, 13, 4, 10, 0, 7, 6, 3, 9, 2, 8, 11},
	{13, 11, 7, 14, 12, 1, 3, 9, 5, 0, 15, 4, 8, 6, 2, 10},
	{6, 15, 14, 9, 11, 3, 0, 8, 12, 2, 13, 7, 1, 4, 10, 5},
	{10, 2, 8, 4, 7, 6, 1, 5, 15, 11, 9, 14, 3, 12, 13, 0},
}

// behind is the first 64 bits behind the point of x's square root, by numbers without bounds.
func behind(x int64) uint64 {
	n := new(big.Int).Lsh(big.NewInt(x), 128)
	n.Sqrt(n)
	return n.And(n, new(big.Int).SetUint64(math.MaxUint64)).Uint64()
}

func primes(n int) []int64 {
	var l []int64
	for x := int64(2); len(l) < n; x++ {
		if big.NewInt(x).ProbablyPrime(0) {
			l = append(l, x)
		}
	}
	return l
}

// first is Initial, of numbers without bounds.
var first = func() [8]uint64 {
	var l [8]uint64
	for i, p := range primes(8) {
		l[i] = behind(p)
	}
	return l
}()

// added is words added up without bounds, and what is left of that modulo 2^64.
func added(l ...uint64) uint64 {
	sum := new(big.Int)
	for _, x := range l {
		sum.Add(sum, new(big.Int).SetUint64(x))
	}
	return sum.And(sum, new(big.Int).SetUint64(math.MaxUint64)).Uint64()
}

func turned(x uint64, n int) uint64 { return x>>n | x<<(64-n) }

// mixed is four words behind a Quarter.
func mixed(l [4]uint64, x, y uint64) [4]uint64 {
	a := added(l[0], l[1], x)
	d := turned(l[3]^a, 32)
	c := added(l[2], d)
	b := turned(l[1]^c, 24)
	a = added(a, b, y)
	d = turned(d^a, 16)
	c = added(c, d)
	b = turned(b^c, 63)
	return [4]uint64{a, b, c, d}
}

// plain is the state behind a block: the words are a table of four rows, of which the columns are mixed, and then, with each row turned by its number, once more.
func plain(state [8]uint64, block []byte, count uint64, last bool) [8]uint64 {
	var m [16]uint64
	for i := range m {
		m[i] = binary.LittleEndian.Uint64(block[8*i:])
	}
	var rows [4][4]uint64
	copy(rows[0][:], state[:4])
	copy(rows[1][:], state[4:])
	copy(rows[2][:], first[:4])
	copy(rows[3][:], first[4:])
	rows[3][0] ^= count
	if last {
		rows[3][2] ^= math.MaxUint64
	}
	for round := range 12 {
		s := sigma[round%10]
		for half := range 2 {
			for i := range 4 {
				at := func(row int) *uint64 { return &rows[row][(i+half*row)%4] }
				l := mixed([4]uint64{*at(0), *at(1), *at(2), *at(3)}, m[s[8*half+2*i]], m[s[8*half+2*i+1]])
				*at(0), *at(1), *at(2), *at(3) = l[0], l[1], l[2], l[3]
			}
		}
	}
	for i := range state {
		state[i] ^= rows[i/4][i%4] ^ rows[2+i/4][i%4]
	}
	return state
}

// known is the sum of a text that is there as a whole.
func known(size int, key, text string) string {
	state := first
	state[0] ^= 0x01010000 + uint64(256*len(key)+size)
	if key != "" {
		text = key + strings.Repeat("\x00", 128-len(key)) + text
	}
	count := uint64(0)
	for ; len(text) > 128; text = text[128:] {
		count += 128
		state = plain(state, []byte(text[:128]), count, false)
	}
	state = plain(state, []byte(text+strings.Repeat("\x00", 128-len(text))), count+uint64(len(text)), true)
	var b []byte
	for _, x := range state {
		b = binary.LittleEndian.AppendUint64(b, x)
	}
	return string(b[:size])
}

// made is a Hash of which New tells no error.
func made(t *testing.T, size int, key string) *blake.Hash {
	t.Helper()
	h, e := blake.New(size, key)
	if h == nil || e != api.OK {
		t.Fatalf("New of %d, a key of %d bytes: %v, %d", size, len(key), h, e)
	}
	return h
}

// of is a sum of which Of tells no error.
func of(t *testing.T, size int, key string, parts ...string) string {
	t.Helper()
	s, e := blake.Of(size, key, parts...)
	if e != api.OK {
		t.Fatalf("Of %d, a key of %d bytes: %d", size, len(key), e)
	}
	return s
}

// sums tells of a Hash that has not the sum, the rest and the total of all that came.
func sums(t *testing.T, h *blake.Hash, size int, key, all string) {
	t.Helper()
	if s := h.Sum(); s != known(size, key, all) {
		t.Errorf("the sum of %d bytes is %x, not %x", len(all), s, known(size, key, all))
	}
	if key != "" {
		all = key + strings.Repeat("\x00", 128-len(key)) + all
	}
	rest := all[max(0, len(all)-1)/128*128:] // a lazy feed holds a whole block
	if string(h.Rest()) != rest || h.Total() != len(all) || h.Size() != 128 {
		t.Errorf("rest %q, total %d, size %d, not %q, %d", h.Rest(), h.Total(), h.Size(), rest, len(all))
	}
}

// P7.1

func TestInitial(t *testing.T) {
	l := blake.Initial()
	for i, p := range primes(8) {
		if l[i] != behind(p) {
			t.Errorf("word %d: %016x, not %016x", i, l[i], behind(p))
		}
		if s, e := root.Square(int(p)); l[i] != s || e != api.OK {
			t.Errorf("word %d: %016x, root has %016x", i, l[i], s)
		}
	}
	if l[0] != 0x6a09e667f3bcc908 || l[7] != 0x5be0cd19137e2179 {
		t.Errorf("%016x", l)
	}
}

// TestInitialIsNew: what is done to the answer is not seen in the next one.
func TestInitialIsNew(t *testing.T) {
	l := blake.Initial()
	clear(l[:])
	if blake.Initial() != first || of(t, 64, "", "abc") != known(64, "", "abc") {
		t.Errorf("%016x", blake.Initial())
	}
}

func TestOrder(t *testing.T) {
	texts := []string{
		"0123456789abcdef", "ea489fd61c02b753", "b8c052fdae367194", "7931dcbe265a40f8", "905724afe1bc683d",
		"2c6a0b834d75fe19", "c51fed4a0763928b", "db7ec13950f4862a", "6fe9b308c2d714a5", "a2847615fb9e3cd0",
	}
	for round := range 50 {
		l := blake.Order(round)
		if l != sigma[round%10] {
			t.Errorf("round %d: %v, not %v", round, l, sigma[round%10])
		}
		s := ""
		for _, x := range l {
			s += string("0123456789abcdef"[x])
		}
		if s != texts[round%10] {
			t.Errorf("round %d: %s, not %s", round, s, texts[round%10])
		}
	}
}

func TestOrderEdges(t *testing.T) {
	for _, c := range []struct{ round, as int }{
		{math.MaxInt, 7}, {math.MaxInt - 7, 0}, {math.MaxInt - 8, 9}, {math.MaxInt32, 7}, {1 << 32, 6}, {api.Most, 4}, {1000000009, 9},
	} {
		if l := blake.Order(c.round); l != sigma[c.as] {
			t.Errorf("round %d: %v, not %v", c.round, l, sigma[c.as])
		}
	}
	for _, round := range []int{-1, -2, -9, -10, -11, -20, math.MinInt32, math.MinInt + 1, math.MinInt, -api.Most} {
		if l := blake.Order(round); l != [16]int{} {
			t.Errorf("round %d: %v", round, l)
		}
	}
}

// TestOrderIsNew: what is done to the answer is not seen in the next one.
func TestOrderIsNew(t *testing.T) {
	l := blake.Order(3)
	clear(l[:])
	if blake.Order(3) != sigma[3] || of(t, 64, "", "abc") != known(64, "", "abc") {
		t.Errorf("%v", blake.Order(3))
	}
}

// P7.2

// quarter is a Quarter's answers in one value.
func quarter(l [4]uint64, x, y uint64) [4]uint64 {
	a, b, c, d := blake.Quarter(l[0], l[1], l[2], l[3], x, y)
	return [4]uint64{a, b, c, d}
}

// TestQuarterByHand: each step worked out by hand.
func TestQuarterByHand(t *testing.T) {
	for _, c := range []struct {
		l    [4]uint64
		x, y uint64
		want [4]uint64
	}{
		{},
		// a 1, d 2^32, c 2^32, b 2^8; a 2^8 + 1, d 2^56 + 2^48 + 2^16, c that and 2^32, b (c xor 2^8) turned by one to the left.
		{x: 1, want: [4]uint64{0x101, 0x0202000200020200, 0x0101000100010000, 0x0101000000010000}},
		{l: [4]uint64{0: 1}, want: [4]uint64{0x101, 0x0202000200020200, 0x0101000100010000, 0x0101000000010000}},
		// a, d, c, b 0; a 1, d 2^48, c 2^48, b 2^49.
		{y: 1, want: [4]uint64{1, 1 << 49, 1 << 48, 1 << 48}},
	} {
		if got := quarter(c.l, c.x, c.y); got != c.want {
			t.Errorf("%x, %x, %x: %x, not %x", c.l, c.x, c.y, got, c.want)
		}
	}
}

func TestQuarter(t *testing.T) {
	edges := []uint64{0, 1, 2, 1 << 31, 1 << 32, 1 << 63, math.MaxUint64, math.MaxUint64 - 1, math.MaxUint32, 0x0123456789abcdef}
	r := rand.New(rand.NewSource(7))
	pick := func() uint64 {
		if r.Intn(2) == 0 {
			return r.Uint64()
		}
		return edges[r.Intn(len(edges))]
	}
	for range 20000 {
		l, x, y := [4]uint64{pick(), pick(), pick(), pick()}, pick(), pick()
		if got := quarter(l, x, y); got != mixed(l, x, y) {
			t.Fatalf("%x, %x, %x: %x, not %x", l, x, y, got, mixed(l, x, y))
		}
	}
}

// TestQuarterBits: each bit of each of the six words is seen in the answer.
func TestQuarterBits(t *testing.T) {
	for word := range 6 {
		for bit := range 64 {
			var l [6]uint64
			l[word] = 1 << bit
			want := mixed([4]uint64(l[:4]), l[4], l[5])
			if got := quarter([4]uint64(l[:4]), l[4], l[5]); got != want || got == [4]uint64{} {
				t.Errorf("word %d, bit %d: %x, not %x", word, bit, got, want)
			}
		}
	}
}

// P7.3

// TestCompressAbc: the one block of "abc", of RFC 7693's example (appendix A).
func TestCompressAbc(t *testing.T) {
	state := blake.Initial()
	state[0] ^= 0x01010040
	if state[0] != 0x6a09e667f2bdc948 {
		t.Fatalf("%016x", state[0])
	}
	block := make([]byte, 128)
	copy(block, "abc")
	got, e := blake.Compress(state, block, 3, true)
	want := [8]uint64{
		0x0d4d1c983fa580ba, 0xe9f6129fb697276a, 0xb7c45a68142f214c, 0xd1a2ffdb6fbb124b,
		0x2d79ab2a39c5877d, 0x95cc3345ded552c2, 0x5a92f1dba88ad318, 0x239900d4ed8623b9,
	}
	if got != want || e != api.OK {
		t.Errorf("%016x, %d", got, e)
	}
}

// TestCompress: states, blocks and counts of all kinds, those at the ends of what words hold among them; each as the last block and not.
func TestCompress(t *testing.T) {
	r := rand.New(rand.NewSource(73))
	states := [][8]uint64{{}, blake.Initial(), {1}, {7: 1}, {7: 1 << 63}}
	blocks := [][]byte{make([]byte, 128), bytes.Repeat([]byte{0xff}, 128), []byte(text(128))}
	var all [8]uint64
	for i := range all {
		all[i] = math.MaxUint64
	}
	states = append(states, all)
	for range 3 {
		var state [8]uint64
		for i := range state {
			state[i] = r.Uint64()
		}
		block := make([]byte, 128)
		r.Read(block)
		states, blocks = append(states, state), append(blocks, block)
	}
	for _, state := range states {
		for _, block := range blocks {
			for _, count := range []uint64{0, 1, 128, 1 << 32, 1 << 63, math.MaxUint64, r.Uint64()} {
				for _, last := range []bool{false, true} {
					got, e := blake.Compress(state, block, count, last)
					if want := plain(state, block, count, last); got != want || e != api.OK {
						t.Fatalf("%016x, %x, %d, %v: %016x, %d, not %016x", state, block, count, last, got, e, want)
					}
				}
			}
		}
	}
}

// TestCompressBytes: each byte of the block, and each bit of the count, by itself.
func TestCompressBytes(t *testing.T) {
	for i := range 128 {
		block := make([]byte, 128)
		block[i] = 0x81
		if got, e := blake.Compress(first, block, 0, false); got != plain(first, block, 0, false) || e != api.OK {
			t.Errorf("byte %d: %016x, %d", i, got, e)
		}
	}
	for i := range 64 {
		if got, e := blake.Compress(first, make([]byte, 128), 1<<i, false); got != plain(first, make([]byte, 128), 1<<i, false) || e != api.OK {
			t.Errorf("bit %d of the count: %016x, %d", i, got, e)
		}
	}
}

func TestCompressRefused(t *testing.T) {
	if got, e := blake.Compress(blake.Initial(), nil, 0, true); got != [8]uint64{} || e != api.ErrSize {
		t.Errorf("nil: %016x, %d", got, e)
	}
	for n := range 400 {
		for _, last := range []bool{false, true} {
			got, e := blake.Compress(blake.Initial(), make([]byte, n, n+128), uint64(n), last)
			if refused := got == [8]uint64{} && e == api.ErrSize; refused != (n != 128) {
				t.Errorf("%d bytes: %016x, %d", n, got, e)
			}
		}
	}
}

// TestCompressChangesNothing: the block is as it was, and so is the state; what lies behind the block does not count.
func TestCompressChangesNothing(t *testing.T) {
	room := []byte(text(300))
	state := blake.Initial()
	once, _ := blake.Compress(state, room[:128], 128, true)
	if string(room) != text(300) || state != blake.Initial() {
		t.Error("the arguments are changed")
	}
	clear(room[128:])
	if again, e := blake.Compress(state, room[:128], 128, true); again != once || e != api.OK {
		t.Errorf("%016x, then %016x", once, again)
	}
}

// P7.4

// TestOfKnown: sums that are known from elsewhere.
func TestOfKnown(t *testing.T) {
	for _, c := range []struct {
		size           int
		key, text, sum string
	}{
		{64, "", "abc", "ba80a53f981c4d0d6a2797b69f12f6e94c212f14685ac4b74b12bb6fdbffa2d17d87c5392aab792dc252d5de4533cc9518d38aa8dbf1925ab92386edd4009923"},
		{64, "", "", "786a02f742015903c6c6fd852552d272912f4740e15847618a86e217f71f5419d25e1031afee585313896444934eb04b903a685b1448b755d56f701afe9be2ce"},
		{1, "", "", "2e"},
		{32, "", "", "0e5751c026e543b2e8ab2eb06099daa1d1e5df47778f7787faab45cdf12fe3a8"},
		{20, "", text(1), "082ad992fb76871c33a1b9993a082952feaca5e6"},
		{48, "", text(128), "a2c2acf7ce4079c02b7f38e2ef33bff531a31a7c7effe712c5348b4d616c0cba9b152679317984ec632d0c70eb11eece"},
		{64, "", text(128), "2319e3789c47e2daa5fe807f61bec2a1a6537fa03f19ff32e87eecbfd64b7e0e8ccff439ac333b040f19b0c4ddd11a61e24ac1fe0f10a039806c5dcc0da3d115"},
		{64, "", text(129), "f59711d44a031d5f97a9413c065d1e614c417ede998590325f49bad2fd444d3e4418be19aec4e11449ac1a57207898bc57d76a1bcf3566292c20c683a5c4648f"},
		{64, "", text(256), "32c06ed75e1035323f7d3ebb08011e9f4c5061b2e440adf1036ee72263a53e59cd7098c41c5ff727566226703b4c91f411afea31401029acb631bd324a1bf985"},
		{63, "", text(257), "cf509855fcdd4854f827138f42502dfa61fbbfdcdf30233f32c8fcdef0f6fc116878624d21d1c3404b7ab2ffd121606c1d5db83eb77707a0cb6250c7f8c320"},
		{64, text(64), "", "10ebb67700b1868efb4417987acf4690ae9d972fb7a590c2f02871799aaa4786b5e996e8f0f4eb981fc214b005f42d2ff4233499391653df7aefcbc13fc51568"},
		{64, text(64), text(1), "961f6dd1e4dd30f63901690c512e78e4b45e4742ed197c3c5e45c549fd25f2e4187b0bc9fe30492b16b0d0bc4ef9b0f34c7003fac09a5ef1532e69430234cebd"},
		{64, text(1), "", "aaf42280524929171e417e77be67f9edec3a8461bbe7b5c2bd1d9a3d0928f1dbbd1f6600bb866b72f0e3b3e22282c145f69873a3d250ddc43c423685d1247657"},
		{16, text(5), text(127), "be68472e25f4ba093252744c3169fced"},
		{33, text(32), text(128), "026d6d889791887e29b4c22e3ded62a4a1df27541df50f7efb1ef34658d51367f2"},
		{64, text(64), text(255), "5585de6382e330c92e493ca28b70ad1b0076774f97ec2981c5b4cd9e7bbb9a707d9ddc2d9a00b7e091033fa62290a837c76d773a2b67f7d5791e93f71876e672"},
		{2, text(63), text(1000), "6b60"},
		{64, "", text(1000000), "0413b6feb02f0413d850b9dd34ba9fb73d837c4258f60d839141b6ef0544e0c7f82ea8bf8fa88e448b5133493b4742717d01b38c318cc9720c451992adeff590"},
		{64, "", strings.Repeat("a", 1000000), "98fb3efb7206fd19ebf69b6f312cf7b64e3b94dbe1a17107913975a793f177e1d077609d7fba363cbba00d05f7aa4e4fa8715d6428104c0a75643b0ff3fd3eaf"},
	} {
		if s := digits(of(t, c.size, c.key, c.text)); s != c.sum {
			t.Errorf("%d, a key of %d bytes, %d bytes: %s, not %s", c.size, len(c.key), len(c.text), s, c.sum)
		}
	}
}

// TestOfAppendix: the sum of sums of RFC 7693's appendix E.
func TestOfAppendix(t *testing.T) {
	series := func(n int) string { // the appendix's own bytes
		a, b := uint32(0xdead4bad)*uint32(n), uint32(1)
		l := make([]byte, n)
		for i := range l {
			a, b = b, a+b
			l[i] = byte(b >> 24)
		}
		return string(l)
	}
	h := made(t, 32, "")
	for _, size := range []int{20, 32, 48, 64} {
		for _, n := range []int{0, 3, 128, 129, 255, 1024} {
			h.Add(of(t, size, "", series(n)))
			h.Add(of(t, size, series(size), series(n)))
		}
	}
	if s := digits(h.Sum()); s != "c23a7800d98123bd10f506c61e29da5603d763b8bbad2e737f5e765a7bccd475" {
		t.Error(s)
	}
}

// TestOfLengths: each length about the ends of blocks, with and without a key.
func TestOfLengths(t *testing.T) {
	for n := range 400 {
		for _, key := range []string{"", "key", text(64)} {
			if s := of(t, 64, key, text(n)); s != known(64, key, text(n)) || len(s) != 64 {
				t.Errorf("a key of %d bytes, %d bytes: %x, not %x", len(key), n, s, known(64, key, text(n)))
			}
		}
	}
	for _, n := range []int{1<<14 - 1, 1 << 14, 1<<14 + 1} {
		if s := of(t, 64, "", text(n)); s != known(64, "", text(n)) {
			t.Errorf("%d bytes: %x", n, s)
		}
	}
}

// TestOfSizes: each size and each key's length that may be.
func TestOfSizes(t *testing.T) {
	for size := 1; size <= 64; size++ {
		for _, n := range []int{0, 1, size, 63, 64} {
			if s := of(t, size, text(n), "abc"); s != known(size, text(n), "abc") || len(s) != size {
				t.Errorf("%d, a key of %d bytes: %x, not %x", size, n, s, known(size, text(n), "abc"))
			}
		}
	}
	for n := range 65 {
		if s := of(t, 64, text(n), text(200)); s != known(64, text(n), text(200)) {
			t.Errorf("a key of %d bytes: %x", n, s)
		}
	}
}

// TestKeyIsNoText: a key of bytes 0 is one, and no sum with a key is one of its block as text.
func TestKeyIsNoText(t *testing.T) {
	seen := map[string]int{}
	for n := range 65 {
		s := of(t, 64, strings.Repeat("\x00", n), "abc")
		if m, ok := seen[s]; ok {
			t.Errorf("keys of %d and of %d bytes 0 have one sum", m, n)
		}
		seen[s] = n
	}
	if of(t, 64, "key") == of(t, 64, "", "key"+strings.Repeat("\x00", 125)) || of(t, 64, "key", "abc") == of(t, 64, "", "key"+strings.Repeat("\x00", 125)+"abc") {
		t.Error("a key's block is as a text")
	}
}

// TestSizesAreUnlike: no sum is the beginning of a longer one.
func TestSizesAreUnlike(t *testing.T) {
	for size := 4; size < 64; size++ {
		if strings.HasPrefix(of(t, 64, "", "abc"), of(t, size, "", "abc")) {
			t.Errorf("the sum of %d bytes is the beginning of that of 64", size)
		}
	}
}

func TestRefused(t *testing.T) {
	for _, c := range []struct{ size, key int }{
		{0, 0}, {-1, 0}, {65, 0}, {66, 0}, {128, 0}, {256, 0}, {257, 0}, {-64, 0}, {math.MaxInt, 0}, {math.MinInt, 0}, {1<<32 + 1, 0}, {1<<8 + 32, 0}, {api.Most, 0},
		{64, 65}, {1, 65}, {64, 66}, {64, 127}, {64, 128}, {64, 129}, {64, 256}, {64, 300}, {32, 1 << 16}, {0, 65}, {65, 65}, {0, 64}, {65, 64}, {-1, 1},
	} {
		if h, e := blake.New(c.size, text(c.key)); h != nil || e != api.ErrArg {
			t.Errorf("New of %d, a key of %d bytes: %v, %d", c.size, c.key, h, e)
		}
		if s, e := blake.Of(c.size, text(c.key), "abc", text(200)); s != "" || e != api.ErrArg {
			t.Errorf("Of %d, a key of %d bytes: %x, %d", c.size, c.key, s, e)
		}
		if s, e := blake.Of(c.size, text(c.key)); s != "" || e != api.ErrArg {
			t.Errorf("Of %d, a key of %d bytes, no parts: %x, %d", c.size, c.key, s, e)
		}
	}
}

func TestOfNothing(t *testing.T) {
	for _, key := range []string{"", "key"} {
		want := known(40, key, "")
		for _, s := range []string{
			of(t, 40, key), of(t, 40, key, ""), of(t, 40, key, "", "", ""), of(t, 40, key, []string{}...),
			made(t, 40, key).Sum(), made(t, 40, key).Add().Sum(), made(t, 40, key).Add("", "").Sum(),
		} {
			if s != want {
				t.Errorf("%x, not %x", s, want)
			}
		}
	}
}

func TestNew(t *testing.T) {
	for size := 1; size <= 64; size++ {
		for _, key := range []string{"", "k", text(63), text(64)} {
			h, g := made(t, size, key), made(t, size, key)
			if h == g || h.Feed == g.Feed {
				t.Error("no Hash by itself")
			}
			h.Add("abc")
			sums(t, g, size, key, "")
			sums(t, h, size, key, "abc")
		}
	}
}

// TestAdd: the Hash itself is answered, and the feed's own calls tell what came, the key's block first.
func TestAdd(t *testing.T) {
	for _, key := range []string{"", "key"} {
		h := made(t, 64, key)
		if h.Add("ab", "c") != h || h.Add() != h {
			t.Error("not the Hash itself")
		}
		sums(t, h, 64, key, "abc")
		h.Add(text(125))
		sums(t, h, 64, key, "abc"+text(125))
		h.Add("x")
		sums(t, h, 64, key, "abc"+text(125)+"x")
		h.Add(text(127)).Add("y").Add(text(260), "", "z")
		sums(t, h, 64, key, "abc"+text(125)+"x"+text(127)+"y"+text(260)+"z")
	}
}

// TestSumChangesNothing: at each place within a block a sum may be asked for any number of times, and more may come behind it.
func TestSumChangesNothing(t *testing.T) {
	all := text(270)
	for _, key := range []string{"", "key"} {
		h := made(t, 33, key)
		for n := range all {
			sums(t, h, 33, key, all[:n])
			sums(t, h, 33, key, all[:n])
			h.Add(all[n : n+1])
		}
		sums(t, h, 33, key, all)
	}
}

// TestAddChangesNothing: the parts are as they were, and what lies behind their list's length does not come.
func TestAddChangesNothing(t *testing.T) {
	l := []string{"ab", "c", "behind"}
	if s := made(t, 64, "").Add(l[:2]...).Sum(); s != known(64, "", "abc") {
		t.Errorf("%x", s)
	}
	if s := of(t, 64, "", l[:2]...); s != known(64, "", "abc") || !slices.Equal(l, []string{"ab", "c", "behind"}) {
		t.Errorf("%x, %q", s, l)
	}
}

// TestPut: blocks that the feed's own Put takes are not compressed, but they came, and are counted.
func TestPut(t *testing.T) {
	h := made(t, 64, "").Add("abc")
	if l := h.Put(text(126)); len(l) != 1 || string(l[0]) != "abc"+text(125) {
		t.Fatalf("%q", l)
	}
	if h.Total() != 129 || string(h.Rest()) != text(126)[125:] {
		t.Errorf("total %d, rest %q", h.Total(), h.Rest())
	}
	state := blake.Initial()
	state[0] ^= 0x01010040
	told := func(state [8]uint64) string {
		s := ""
		for _, x := range state {
			s += digits(string(binary.LittleEndian.AppendUint64(nil, x)))
		}
		return s
	}
	last := make([]byte, 128)
	last[0] = text(126)[125]
	if want := told(plain(state, last, 129, true)); digits(h.Sum()) != want {
		t.Errorf("%x, not %s", h.Sum(), want)
	}
	h.Add(text(200))
	all := text(126)[125:] + text(200)
	state = plain(state, []byte(all[:128]), 256, false)
	clear(last)
	copy(last, all[128:])
	if want := told(plain(state, last, 329, true)); digits(h.Sum()) != want {
		t.Errorf("%x, not %s", h.Sum(), want)
	}
	g := made(t, 64, "").Add("ab")
	g.Put("c", text(125)) // a lazy feed keeps the whole block: it only came
	sums(t, g, 64, "", "abc"+text(125))
}

func TestNil(t *testing.T) {
	var h *blake.Hash
	if h.Add() != nil || h.Add("abc", text(300)) != nil || h.Sum() != "" {
		t.Error("a nil Hash has more than nothing")
	}
}

// TestNobodyMade: the calls of a Hash that no call made end, and none panics (R1); what they answer is promised nowhere.
func TestNobodyMade(t *testing.T) {
	small, _ := feed.New(3, false)
	great, _ := feed.New(1000, true)
	for _, h := range []*blake.Hash{{}, {Feed: &feed.Feed{}}, {Feed: small}, {Feed: great}} {
		h.Add()
		h.Sum()
		h.Add("", "abc", text(100))
		h.Add(text(3000)).Sum()
	}
	for _, f := range []*feed.Feed{nil, {}, small, great} {
		h := made(t, 64, "key").Add("abc")
		h.Feed = f
		h.Add("abc", text(3000)).Sum()
	}
}

// P7.5

// TestParts: however bytes are parted, within a call and over calls, with sums asked for between, the sum is the same.
func TestParts(t *testing.T) {
	for _, key := range []string{"", "key"} {
		for _, n := range []int{0, 1, 3, 127, 128, 129, 255, 256, 257, 300} {
			all := text(n)
			want := known(50, key, all)
			for step := 1; step <= n+1; step++ {
				parts := parted(all, step)
				if of(t, 50, key, parts...) != want || of(t, 50, key, append([]string{"", ""}, parts...)...) != want {
					t.Fatalf("%d bytes by %d", n, step)
				}
				h := made(t, 50, key)
				for _, part := range parts {
					h.Add(part).Sum()
				}
				sums(t, h, 50, key, all)
			}
		}
	}
}

// TestTwoParts: each place at which a text is cut in two, in one call and over two.
func TestTwoParts(t *testing.T) {
	all := text(300)
	for _, key := range []string{"", text(64)} {
		want := known(64, key, all)
		for n := range len(all) + 1 {
			h := made(t, 64, key).Add(all[:n])
			if s := h.Sum(); s != known(64, key, all[:n]) {
				t.Errorf("the first %d bytes: %x", n, s)
			}
			if of(t, 64, key, all[:n], all[n:]) != want || h.Add(all[n:]).Sum() != want {
				t.Errorf("cut at %d", n)
			}
		}
	}
}

// TestPartsByChance: sizes, keys and parts of all lengths, sums of some of what came between; a Hash has as many bytes as it was made for.
func TestPartsByChance(t *testing.T) {
	r := rand.New(rand.NewSource(75))
	some := func(n int) string {
		b := make([]byte, n)
		r.Read(b)
		return string(b)
	}
	for range 300 {
		size, key := 1+r.Intn(64), some(r.Intn(65))
		h, came := made(t, size, key), ""
		for range r.Intn(8) {
			var parts []string
			for range r.Intn(4) {
				parts = append(parts, some(r.Intn(200)))
			}
			came += strings.Join(parts, "")
			h.Add(parts...)
			if r.Intn(2) == 0 && len(h.Sum()) != size {
				t.Fatalf("%d bytes, not %d", len(h.Sum()), size)
			}
		}
		sums(t, h, size, key, came)
		if s := of(t, size, key, came); s != h.Sum() || len(s) != size {
			t.Errorf("%x, not %x", s, h.Sum())
		}
	}
}

// TestBitsCount: about half of a sum's bits are turned by one bit of what came, or of the key.
func TestBitsCount(t *testing.T) {
	base := of(t, 64, text(16), text(16))
	unlike := func(s string) int {
		n := 0
		for i := range s {
			n += bits.OnesCount8(s[i] ^ base[i])
		}
		return n
	}
	for bit := range 128 {
		b := []byte(text(16))
		b[bit/8] ^= 1 << (bit % 8)
		for _, s := range []string{of(t, 64, text(16), string(b)), of(t, 64, string(b), text(16))} {
			if n := unlike(s); n < 180 || n > 332 {
				t.Errorf("bit %d turns %d bits", bit, n)
			}
		}
	}
}
