package scrypt_test

import (
	"bytes"
	"crypto/pbkdf2"
	"crypto/sha256"
	"encoding/binary"
	"encoding/hex"
	"fmt"
	"math"
	"math/big"
	"math/bits"
	"math/rand"
	"slices"
	"strings"
	"testing"

	"pestle/api"
	"pestle/arena"
	"pestle/scrypt"
)

// far are numbers that none of the parameters may be; products and shifts of some of them wrap around to such as may be.
func far() []int {
	return []int{math.MinInt, math.MinInt + 1, math.MinInt + 4, -1 << 62, -1 << 32, -1<<32 + 1, -1 << 31, -1025, -513, -512, -33, -32, -16, -2, -1, 0, 1025, 1026, 1<<16 + 1, 1 << 31, 1<<31 + 1, 1<<32 - 1, 1 << 32, 1<<32 + 1, 1<<32 + 8, 1 << 58, 1 << 60, 1<<60 + 1, 1 << 61, 1<<61 + 1, 1 << 62, 1<<62 + 1, math.MaxInt - 1, math.MaxInt}
}

// may tells whether parameters are to be let by, reckoned without a bound.
func may(log, r, p, n int) bool {
	in := func(x, most int) bool { return 1 <= x && x <= most }
	product := new(big.Int).Mul(big.NewInt(int64(r)), big.NewInt(int64(p)))
	if !in(r, 512) || !in(p, 512) || product.Cmp(big.NewInt(512)) > 0 {
		return false
	}
	return in(log, 32) && log < 16*r && in(n, 1024)
}

// needed is how many blocks are needed, reckoned without a bound.
func needed(log, r, p int) int {
	rows := new(big.Int).Lsh(big.NewInt(1), uint(log))
	rows.Add(rows, big.NewInt(int64(p+2)))
	rows.Mul(rows, big.NewInt(int64(128*r)))
	rows.Add(rows, big.NewInt(1023))
	return int(rows.Rsh(rows, 10).Int64())
}

// same tells of parameters that one of the three calls takes otherwise than it is to; an arena of no block has none for those that may be.
func same(t *testing.T, empty *arena.Arena, log, r, p, n int) {
	t.Helper()
	check, key, without := api.OK, api.ErrBudget, api.ErrNone
	if !may(log, r, p, n) {
		check, key, without = api.ErrParams, api.ErrParams, api.ErrParams
	}
	if e := scrypt.Check(log, r, p, n); e != check {
		t.Fatalf("Check(%d, %d, %d, %d): %d, not %d", log, r, p, n, e, check)
	}
	if k, e := scrypt.Key(empty, "word", "salt", log, r, p, n); k != "" || e != key {
		t.Fatalf("Key of %d, %d, %d, %d, no block: %q, %d, not %d", log, r, p, n, k, e, key)
	}
	if k, e := scrypt.Key(nil, "word", "salt", log, r, p, n); k != "" || e != without {
		t.Fatalf("Key of %d, %d, %d, %d, no arena: %q, %d, not %d", log, r, p, n, k, e, without)
	}
	blocks, want := 0, api.ErrParams
	if may(log, r, p, 1) {
		blocks, want = needed(log, r, p), api.OK
	}
	if got, e := scrypt.Need(log, r, p); got != blocks || e != want {
		t.Fatalf("Need(%d, %d, %d): %d, %d, not %d, %d", log, r, p, got, e, blocks, want)
	}
}

// budget is an arena of so many blocks.
func budget(t *testing.T, n int) *arena.Arena {
	t.Helper()
	a, e := arena.New(n)
	if e != api.OK {
		t.Fatal(n, e)
	}
	return a
}

// keyOf is a key by way of an arena that has just as many blocks as are needed; all of them are in use meanwhile, and none behind it.
func keyOf(t *testing.T, word, salt string, log, r, p, n int) string {
	t.Helper()
	a := budget(t, needed(log, r, p))
	k, e := scrypt.Key(a, word, salt, log, r, p, n)
	if len(k) != n || e != api.OK {
		t.Fatalf("Key of %d, %d, %d, %d: %d bytes, %d", log, r, p, n, len(k), e)
	}
	if a.Used() != 0 || a.Lent() != 0 || a.High() != needed(log, r, p) || a.Budget() != needed(log, r, p) {
		t.Fatalf("Key of %d, %d, %d: %d blocks in use, of %d pieces, %d at most", log, r, p, a.Used(), a.Lent(), a.High())
	}
	return k
}

// salsa8 is RFC 7914's Salsa20/8 of 64 bytes, in place, written out by rows and columns.
func salsa8(b []byte) {
	var in, x [16]uint32
	for i := range in {
		in[i] = binary.LittleEndian.Uint32(b[4*i:])
	}
	x = in
	step := func(to, from, other, n int) { x[to] ^= bits.RotateLeft32(x[from]+x[other], n) }
	for range 4 {
		for i := range 4 { // column i, from the diagonal down
			a, b, c, d := 5*i, (5*i+4)%16, (5*i+8)%16, (5*i+12)%16
			step(b, a, d, 7)
			step(c, b, a, 9)
			step(d, c, b, 13)
			step(a, d, c, 18)
		}
		for i := range 4 { // row i, from the diagonal to the right
			at := func(k int) int { return 4*i + (i+k)%4 }
			step(at(1), at(0), at(3), 7)
			step(at(2), at(1), at(0), 9)
			step(at(3), at(2), at(1), 13)
			step(at(0), at(3), at(2), 18)
		}
	}
	for i := range x {
		binary.LittleEndian.PutUint32(b[4*i:], x[i]+in[i])
	}
}

// xor puts bytes together with as many others, in place.
func xor(b, with []byte) {
	for i := range b {
		b[i] ^= with[i]
	}
}

// blockMix is RFC 7914's scryptBlockMix.
func blockMix(b []byte) []byte {
	x := slices.Clone(b[len(b)-64:])
	var even, odd []byte
	for i := 0; i < len(b); i += 128 {
		xor(x, b[i:])
		salsa8(x)
		even = append(even, x...)
		xor(x, b[i+64:])
		salsa8(x)
		odd = append(odd, x...)
	}
	return append(even, odd...)
}

// roMix is RFC 7914's scryptROMix.
func roMix(x []byte, log int) []byte {
	var v [][]byte
	for range 1 << log {
		v = append(v, x)
		x = blockMix(x)
	}
	for range v {
		j := binary.LittleEndian.Uint64(x[len(x)-64:]) % uint64(len(v))
		x = slices.Clone(x)
		xor(x, v[j])
		x = blockMix(x)
	}
	return x
}

// plain is RFC 7914's scrypt, over bytes alone: no part of it is the program's.
func plain(t *testing.T, word, salt string, log, r, p, n int) string {
	t.Helper()
	b, err := pbkdf2.Key(sha256.New, word, []byte(salt), 1, 128*r*p)
	if err != nil {
		t.Fatal(err)
	}
	var rows []byte
	for x := range slices.Chunk(b, 128*r) {
		rows = append(rows, roMix(x, log)...)
	}
	k, err := pbkdf2.Key(sha256.New, word, rows, 1, n)
	if err != nil {
		t.Fatal(err)
	}
	return string(k)
}

// P25.1, and that the other two calls have its errors

// TestCheckProducts: all r and p about the edges of what they, and their product, may be.
func TestCheckProducts(t *testing.T) {
	a := budget(t, 0)
	for r := -1; r <= 514; r++ {
		for p := -1; p <= 514; p++ {
			want := api.ErrParams
			if r >= 1 && p >= 1 && r*p <= 512 {
				want = api.OK
			}
			if e := scrypt.Check(1, r, p, 1); e != want {
				t.Fatalf("r %d, p %d: %d, not %d", r, p, e, want)
			}
		}
	}
	for _, c := range [][2]int{{1, 512}, {1, 513}, {2, 256}, {2, 257}, {3, 170}, {3, 171}, {22, 23}, {23, 22}, {22, 24}, {23, 23}, {256, 2}, {256, 3}, {257, 1}, {257, 2}, {511, 1}, {511, 2}, {512, 1}, {512, 2}, {513, 1}, {512, 512}, {0, 1}, {1, 0}, {0, 0}, {-1, -1}, {-1, 1}, {-2, -256}} {
		for _, log := range []int{1, 8, 15} {
			same(t, a, log, c[0], c[1], 32)
		}
	}
	if a.High() != 0 {
		t.Error("blocks were in use")
	}
}

// TestCheckLogs: all logs about the edges, by r, where 16 times r is below them and above them.
func TestCheckLogs(t *testing.T) {
	a := budget(t, 0)
	most := map[int]int{1: 15, 2: 31, 3: 32, 4: 32, 5: 32, 16: 32, 256: 32, 512: 32}
	for r, top := range most {
		for log := -2; log <= 70; log++ {
			want := api.ErrParams
			if log >= 1 && log <= top {
				want = api.OK
			}
			if e := scrypt.Check(log, r, 1, 64); e != want {
				t.Errorf("log %d, r %d: %d, not %d", log, r, e, want)
			}
			same(t, a, log, r, 1, 64)
			same(t, a, log, r, 512/r, 64)
			same(t, a, log, r, 512/r+1, 64)
		}
	}
}

// TestCheckSizes: all sizes about the edges; Need doesn't hang on them.
func TestCheckSizes(t *testing.T) {
	a := budget(t, 0)
	for n := -2; n <= 1030; n++ {
		want := api.ErrParams
		if n >= 1 && n <= 1024 {
			want = api.OK
		}
		if e := scrypt.Check(14, 8, 1, n); e != want {
			t.Errorf("%d bytes: %d, not %d", n, e, want)
		}
		same(t, a, 14, 8, 1, n)
	}
}

// TestCheckFar: numbers far beyond, one at a time and all together.
func TestCheckFar(t *testing.T) {
	a := budget(t, 0)
	for _, x := range far() {
		same(t, a, x, 8, 1, 32)
		same(t, a, 10, x, 1, 32)
		same(t, a, 10, 8, x, 32)
		same(t, a, 10, 8, 1, x)
		for _, y := range far() {
			same(t, a, 10, x, y, 32)
			same(t, a, x, y, 1, 32)
			same(t, a, x, 8, y, 32)
			same(t, a, 10, 8, x, y)
			same(t, a, x, y, x, y)
		}
	}
}

// TestCheckAny: parameters of any kind about the edges.
func TestCheckAny(t *testing.T) {
	a := budget(t, 0)
	c := rand.New(rand.NewSource(2500))
	for range 50000 {
		same(t, a, c.Intn(36)-1, c.Intn(40), c.Intn(40), []int{0, 1, 32, 1024, 1025}[c.Intn(5)])
	}
}

// P25.2

// TestNeedAll: of all that may be, at each log.
func TestNeedAll(t *testing.T) {
	for r := 1; r <= 512; r++ {
		for p := 1; r*p <= 512; p++ {
			for log := 1; log <= 32 && log < 16*r; log++ {
				if n, e := scrypt.Need(log, r, p); n != needed(log, r, p) || e != api.OK {
					t.Fatalf("Need(%d, %d, %d): %d, %d, not %d", log, r, p, n, e, needed(log, r, p))
				}
			}
		}
	}
}

func TestNeedKnown(t *testing.T) {
	for _, c := range [][4]int{
		{4, 1, 1, 3},      // 19 rows, 8 of which are a block
		{1, 1, 1, 1},      // 5
		{1, 1, 4, 1},      // 8 rows are just a block
		{1, 1, 5, 2},      // 9
		{2, 1, 2, 1},      // 8
		{2, 1, 3, 2},      // 9
		{3, 3, 1, 5},      // 11 rows of 384 bytes
		{10, 8, 16, 1042}, // each row is a block
		{14, 8, 1, 16387},
		{20, 8, 1, 1<<20 + 3},
		{15, 1, 1, 4097},
		{1, 512, 1, 320},
		{1, 1, 512, 65},
		{31, 2, 1, 1<<29 + 1},
		{32, 3, 1, 3<<29 + 2},
		{32, 512, 1, 64<<32 + 192},
	} {
		if n, e := scrypt.Need(c[0], c[1], c[2]); n != c[3] || e != api.OK {
			t.Errorf("Need(%d, %d, %d): %d, %d, not %d", c[0], c[1], c[2], n, e, c[3])
		}
	}
}

// P25.3

// TestKnown: keys of RFC 7914 (the first three), and of another scrypt.
func TestKnown(t *testing.T) {
	for _, c := range []struct {
		word, salt string
		log, r, p  int
		key        string
	}{
		{"", "", 4, 1, 1, "77d6576238657b203b19ca42c18a0497f16b4844e3074ae8dfdffa3fede21442fcd0069ded0948f8326a753a0fc81f17e8d3e0fb2e0d3628cf35e20c38d18906"},
		{"password", "NaCl", 10, 8, 16, "fdbabe1c9d3472007856e7190d01e9fe7c6ad7cbc8237830e77376634b3731622eaf30d92e22a3886ff109279d9830dac727afb94a83ee6d8360cbdfa2cc0640"},
		{"pleaseletmein", "SodiumChloride", 14, 8, 1, "7023bdcb3afd7348461c06cd81fd38ebfda8fbba904f8e3ea9b543f6545da1f2d5432955613f0fcf62d49705242a9af9e61e85dc0d651e40dfcf017b45575887"},
		{"password", "salt", 1, 1, 1, "6d1bb878eee9ce4a7b77d7a44103574d4cbfe3c15ae3940f0ffe75cd5e1e0afa"},
		{"password", "salt", 1, 1, 512, "155b50ff35334025ff372d271657b104b3a3de39b2805bf4cdc44301c5608460"},
		{"password", "salt", 1, 512, 1, "7b52d23cac25164bc74e7debd336ffd0bd665ccbcfde9c36dc6825e2decc1bd1"},
		{"password", "salt", 2, 2, 256, "f72e14f3716f02b1ee2039c688088616d63ed9a493c379887d36a582c01ea037da"},
		{"password", "salt", 2, 22, 23, "133f5a891982b4ed3e05a440217046e1914ab51104401054225b62c6b6dee2"},
		{"password", "salt", 15, 1, 1, "c1516997788c1cff5d1020d784d9a31b4cd742ce4fcd4370288548fb0c5a96ea"},
		{"password", "salt", 15, 2, 2, "274fc62bb352123589c97ee453e20d16613db3577ffa7e2529cf79611daf718c"},
		{"password", "salt", 16, 2, 1, "48b8ffd691bd870b2e2290bd52ea57403214d86701b17684ed2fee924b1419a0"},
		{"password", "salt", 7, 3, 5, "29"},
		{"password", "salt", 6, 7, 3, "34c6414ad92bc60e970ff438479a559912f2247cc19cca6b7aea06e9c0f566b319bd98ad7a69b9b314ef33bec82de3cd95eb86ff47403224f08a16c3bab0f3536378ee753673b5c6ceb0af758dda0420c7ef3ad2e5b629e2e2d708fc113322995119dcfc"},
		{"a\x00b\xff", "\x00\x00", 3, 5, 2, "bda8f2acbcad9a929960b023409423127085f5555acc1507e6a8c43893de81b3fe9144f9a0527ef6"},
		{strings.Repeat("x", 65), strings.Repeat("y", 200), 4, 3, 2, "ab94bd1348bf9fa8157c8dc7ec465692f32b1a134bffd599c4c0d02950c85f3ccd46c4df10d902f6"},
		{strings.Repeat("x", 5000), "", 4, 1, 2, "f6243aacbcb707ed0598c0313b365b74eaeadb732d974ef2d4e121de99fd70712b2e37cf30c7de4d"},
		{"", strings.Repeat("z", 64), 5, 2, 1, "2863e41780c65b35db619ebef30fc7accd7caef9744ba7aa13c650e83a088815fef690dfaeecfb9a"},
	} {
		key := keyOf(t, c.word, c.salt, c.log, c.r, c.p, len(c.key)/2)
		if got := hex.EncodeToString([]byte(key)); got != c.key {
			t.Errorf("log %d, r %d, p %d: %s, not %s", c.log, c.r, c.p, got, c.key)
		}
	}
	sum := sha256.Sum256([]byte(keyOf(t, "password", "salt", 3, 2, 2, 1024)))
	if got := hex.EncodeToString(sum[:]); got != "a02b3a6a833d56df983815f84485d36179576d951bc74ee4adfc7934211b2efb" {
		t.Error(got)
	}
}

// TestAgainstPlain: small parameters one by one, and greater ones of any kind.
func TestAgainstPlain(t *testing.T) {
	c := rand.New(rand.NewSource(2501))
	text := func(n int) string {
		b := make([]byte, c.Intn(n+1))
		c.Read(b)
		return string(b)
	}
	try := func(log, r, p, n int) {
		t.Helper()
		word, salt := text(90), text(40)
		if got, want := keyOf(t, word, salt, log, r, p, n), plain(t, word, salt, log, r, p, n); got != want {
			t.Fatalf("%q, %q, log %d, r %d, p %d: %x, not %x", word, salt, log, r, p, got, want)
		}
	}
	for log := 1; log <= 5; log++ {
		for r := 1; r <= 9; r++ {
			for p := 1; p <= 9; p++ {
				try(log, r, p, 1+c.Intn(100))
			}
		}
	}
	for range 60 {
		r := 1 + c.Intn(512)
		try(1+c.Intn(4), r, 1+c.Intn(512/r), 1+c.Intn(1024))
	}
	for log := 6; log <= 12; log++ {
		try(log, 1, 2, 64)
		try(log, 3, 1, 64)
	}
}

// TestSizes: a key of each size is the beginning of the longest one.
func TestSizes(t *testing.T) {
	long := plain(t, "word", "salt", 2, 1, 2, 1024)
	for n := 1; n <= 1024; n++ {
		if k := keyOf(t, "word", "salt", 2, 1, 2, n); k != long[:n] {
			t.Fatalf("%d bytes: %x", n, k)
		}
	}
}

// TestEachCounts: whatever is changed, the key is another one.
func TestEachCounts(t *testing.T) {
	seen := map[string]string{}
	for _, word := range []string{"", "a", "b", "aa", strings.Repeat("a", 64), strings.Repeat("a", 5000), strings.Repeat("a", 5001)} {
		for _, salt := range []string{"", "a", "a\x00", "b", strings.Repeat("a", 64), strings.Repeat("a", 5000)} {
			for _, c := range [][3]int{{3, 1, 1}, {4, 1, 1}, {3, 2, 1}, {3, 1, 2}, {3, 4, 2}, {3, 2, 4}} {
				k := keyOf(t, word, salt, c[0], c[1], c[2], 32)
				name := fmt.Sprint(len(word), word, len(salt), salt, c)
				if other, ok := seen[k]; ok {
					t.Errorf("%.40s and %.40s have one key", name, other)
				}
				seen[k] = name
			}
		}
	}
}

// TestBudget: as many blocks as are needed are enough, and one less is not; what is lent counts.
func TestBudget(t *testing.T) {
	for _, c := range [][3]int{{1, 1, 1}, {4, 1, 1}, {1, 1, 5}, {3, 3, 1}, {2, 8, 3}, {5, 9, 2}, {1, 512, 1}, {1, 1, 512}} {
		log, r, p := c[0], c[1], c[2]
		want := plain(t, "word", "salt", log, r, p, 40)
		n := needed(log, r, p)
		for _, lent := range []int{0, 1, 7, n} {
			for left := n - 3; left <= n+2; left++ {
				if left < 0 {
					continue
				}
				a := budget(t, lent+left)
				if _, e := a.Reserve(lent); e != api.OK {
					t.Fatal(e)
				}
				k, e := scrypt.Key(a, "word", "salt", log, r, p, 40)
				if left < n && (k != "" || e != api.ErrBudget || a.High() != lent) {
					t.Fatalf("%v, %d of %d blocks: %x, %d, %d at most", c, left, n, k, e, a.High())
				}
				if left >= n && (k != want || e != api.OK || a.High() != lent+n) {
					t.Fatalf("%v, %d of %d blocks: %x, %d, %d at most", c, left, n, k, e, a.High())
				}
				if a.Used() != lent || a.Lent() != 1 || a.Budget() != lent+left {
					t.Fatalf("%v: %d blocks in use, of %d pieces", c, a.Used(), a.Lent())
				}
			}
		}
	}
}

// TestFarBeyondBudget: what needs more blocks than any arena has is refused at once.
func TestFarBeyondBudget(t *testing.T) {
	a := budget(t, api.MaxBudget)
	for _, c := range [][3]int{{22, 8, 1}, {25, 2, 1}, {31, 2, 1}, {32, 3, 1}, {32, 3, 170}, {32, 8, 1}, {32, 512, 1}} {
		if k, e := scrypt.Key(a, "word", "salt", c[0], c[1], c[2], 32); k != "" || e != api.ErrBudget {
			t.Errorf("%v: %x, %d", c, k, e)
		}
	}
	if a.Used() != 0 || a.Lent() != 0 || a.High() != 0 {
		t.Error("something was lent")
	}
}

// TestErrorsInOrder: parameters ahead of the arena, and that there is none ahead of its budget.
func TestErrorsInOrder(t *testing.T) {
	var zero arena.Arena
	full := budget(t, 5)
	full.Reserve(5)
	for _, c := range []struct {
		a            *arena.Arena
		log, r, p, n int
		want         api.Errno
	}{
		{nil, 4, 1, 1, 32, api.ErrNone},
		{nil, 32, 512, 1, 1024, api.ErrNone},
		{nil, 0, 1, 1, 32, api.ErrParams},
		{nil, 4, 0, 1, 32, api.ErrParams},
		{nil, 4, 1, 0, 32, api.ErrParams},
		{nil, 4, 1, 1, 0, api.ErrParams},
		{nil, 16, 1, 1, 32, api.ErrParams},
		{full, 4, 1, 1, 32, api.ErrBudget},
		{full, 4, 1, 1, 1025, api.ErrParams},
		{full, 33, 8, 1, 32, api.ErrParams},
		{full, 4, 513, 1, 32, api.ErrParams},
		{full, 4, 2, 257, 32, api.ErrParams},
		{&zero, 4, 1, 1, 32, api.ErrBudget},
	} {
		if k, e := scrypt.Key(c.a, "word", "salt", c.log, c.r, c.p, c.n); k != "" || e != c.want {
			t.Errorf("%+v: %q, %d", c, k, e)
		}
	}
	if full.Used() != 5 || full.Lent() != 1 || full.High() != 5 {
		t.Error("the arena is changed")
	}
}

// P25.4

// TestArenaDoesNotMatter: one key by way of unlike arenas, and one behind the other by way of one; pieces that are lent stay as they are.
func TestArenaDoesNotMatter(t *testing.T) {
	c := rand.New(rand.NewSource(2502))
	a := budget(t, 400)
	var pieces []*arena.Piece
	var images []api.Block
	for i := range 120 {
		if i%10 == 0 { // blocks of any words, some of which are taken back ahead of the next keys
			p, e := a.Reserve(5)
			if e != api.OK {
				t.Fatal(e)
			}
			var b api.Block
			for k := range b {
				b[k] = c.Uint64()
			}
			for k := range 5 {
				p.Set(k, b)
			}
			pieces, images = append(pieces, p), append(images, b)
		}
		if i%30 == 29 {
			a.Release(pieces[0])
			pieces, images = pieces[1:], images[1:]
		}
		log, r, p := 1+c.Intn(5), 1+c.Intn(8), 1+c.Intn(3)
		used, lent := a.Used(), a.Lent()
		a.Mark()
		k, e := scrypt.Key(a, "word", "salt", log, r, p, 50)
		if want := keyOf(t, "word", "salt", log, r, p, 50); k != want || e != api.OK {
			t.Fatalf("log %d, r %d, p %d: %x, %d, not %x", log, r, p, k, e, want)
		}
		if a.Used() != used || a.Lent() != lent || a.High() != used+needed(log, r, p) {
			t.Fatalf("log %d, r %d, p %d: %d blocks in use, not %d, %d at most", log, r, p, a.Used(), used, a.High())
		}
	}
	for i, p := range pieces {
		for k := range 5 {
			if b, e := p.Get(k); b != images[i] || e != api.OK {
				t.Error("a piece that is lent is changed", i, k, e)
			}
		}
	}
}

// TestAgain: one call twice comes to one key, whatever came ahead of it, errors among it.
func TestAgain(t *testing.T) {
	a := budget(t, 40)
	first, _ := scrypt.Key(a, "word", "salt", 4, 2, 3, 64)
	scrypt.Key(a, "other", "salt", 3, 1, 9, 1000)
	scrypt.Key(a, "other", "salt", 14, 8, 1, 64)
	scrypt.Key(a, "other", "salt", 0, 0, 0, 0)
	if k, e := scrypt.Key(a, "word", "salt", 4, 2, 3, 64); k != first || e != api.OK || len(k) != 64 {
		t.Errorf("%x, not %x, %d", k, first, e)
	}
	if a.Used() != 0 || a.Lent() != 0 {
		t.Error("something is lent")
	}
}

func TestExample(t *testing.T) {
	a := budget(t, 3)
	k, e := scrypt.Key(a, "", "", 4, 1, 1, 64)
	if !bytes.HasPrefix([]byte(k), []byte{0x77, 0xd6, 0x57, 0x62, 0x38, 0x65, 0x7b, 0x20}) || len(k) != 64 || e != api.OK {
		t.Errorf("%x, %d", k, e)
	}
	if n, e := scrypt.Need(4, 1, 1); n != 3 || e != api.OK {
		t.Error(n, e)
	}
}
