package eks_test

import (
	"encoding/base64"
	"encoding/binary"
	"math"
	"math/rand"
	"slices"
	"strings"
	"testing"

	"pestle/api"
	"pestle/cipher"
	"pestle/eks"
)

const magic = "OrpheanBeholderScryDoubt"

// letters are bcrypt's own, without padding.
var letters = base64.NewEncoding("./ABCDEFGHIJKLMNOPQRSTUVWXYZabcdefghijklmnopqrstuvwxyz0123456789").WithPadding(base64.NoPadding)

// random is a text of so many bytes, the same in each run.
func random(r *rand.Rand, n int) string {
	b := make([]byte, n)
	r.Read(b)
	return string(b)
}

// several is so many words, the same in each run.
func several(r *rand.Rand, n int) []uint32 {
	l := make([]uint32, n)
	for i := range l {
		l[i] = r.Uint32()
	}
	return l
}

// made is Setup of what may be.
func made(t *testing.T, cost int, salt, key string) *cipher.Cipher {
	t.Helper()
	c, e := eks.Setup(cost, salt, key)
	if c == nil || e != api.OK {
		t.Fatalf("Setup(%d, %q, %q): %v %d", cost, salt, key, c, e)
	}
	return c
}

// more expands tables so many times, by the key and then by the salt.
func more(c *cipher.Cipher, times int, salt, key string) *cipher.Cipher {
	for i := 0; i < times; i++ {
		c.Expand("", key)
		c.Expand("", salt)
	}
	return c
}

// steps is the document's own steps.
func steps(cost int, salt, key string) *cipher.Cipher {
	return more(cipher.Plain().Expand(salt, key), 1<<cost, salt, key)
}

// same tells whether two tables are the same, in their sum and in what they make of words.
func same(c, d *cipher.Cipher) bool {
	if c == nil || d == nil || c.Sum() != d.Sum() {
		return false
	}
	r := rand.New(rand.NewSource(int64(c.Sum())))
	for range 40 {
		x, y := r.Uint32(), r.Uint32()
		a, b := c.Encrypt(x, y)
		if p, q := d.Encrypt(x, y); a != p || b != q {
			return false
		}
	}
	return true
}

// sealed is the words, each two encrypted so often, one time behind the other over all of them.
func sealed(c *cipher.Cipher, times int, l []uint32) []uint32 {
	out := slices.Clone(l)
	for i := 0; i < times; i++ {
		for at := 0; at < len(out); at += 2 {
			out[at], out[at+1] = c.Encrypt(out[at], out[at+1])
		}
	}
	return out
}

// P11.1

func TestRounds(t *testing.T) {
	want := 16
	for cost := 4; cost <= 31; cost++ {
		if n, e := eks.Rounds(cost); n != want || e != api.OK {
			t.Errorf("Rounds(%d): %d %d, not %d", cost, n, e, want)
		}
		want *= 2
	}
}

// beyond are costs that may not be.
func beyond() []int {
	return []int{3, 32, 0, 1, 2, -1, -4, -31, 33, 62, 63, 64, 68, 256 + 4, math.MaxInt32, math.MinInt32, 1<<32 + 4, math.MaxInt, math.MinInt, math.MinInt + 4}
}

func TestRoundsRefused(t *testing.T) {
	for _, cost := range beyond() {
		if n, e := eks.Rounds(cost); n != 0 || e != api.ErrParams {
			t.Errorf("Rounds(%d): %d %d", cost, n, e)
		}
	}
}

// P11.2

// TestSetup: keys of all lengths that may be, with salts of any bytes.
func TestSetup(t *testing.T) {
	r := rand.New(rand.NewSource(1))
	for n := 1; n <= api.MaxKey; n++ {
		salt, key := random(r, 16), random(r, n)
		if !same(made(t, 4, salt, key), steps(4, salt, key)) {
			t.Errorf("a key of %d bytes", n)
		}
	}
}

func TestSetupOfCosts(t *testing.T) {
	r := rand.New(rand.NewSource(2))
	for cost := 4; cost <= 9; cost++ {
		salt, key := random(r, 16), random(r, 5*cost)
		if !same(made(t, cost, salt, key), steps(cost, salt, key)) {
			t.Errorf("the cost %d", cost)
		}
	}
}

// TestSetupOfPlainTexts: bytes 0, bytes 255, a salt that is the key, bytes that are no letters.
func TestSetupOfPlainTexts(t *testing.T) {
	zero, full := strings.Repeat("\x00", 16), strings.Repeat("\xff", 16)
	keys := []string{"\x00", "\x00\x00", "\xff", zero, full, "a", "a\x00", "\xc3\x28", strings.Repeat("\x00", 72), strings.Repeat("\xff", 72)}
	for _, salt := range []string{zero, full, "1234567890123456"} {
		for _, key := range append(keys, salt) {
			if !same(made(t, 4, salt, key), steps(4, salt, key)) {
				t.Errorf("%q, %q", salt, key)
			}
		}
	}
}

// TestKnown: strings of bcrypt whose passwords are known, from crypt_blowfish's tests and jBCrypt's.
func TestKnown(t *testing.T) {
	known := []struct {
		cost      int
		salt, tag string
		word      string
	}{
		{5, "CCCCCCCCCCCCCCCCCCCCC.", "E5YPO9kmyuRGyh0XouQYb4YMJKvyOeW", "U*U"},
		{5, "CCCCCCCCCCCCCCCCCCCCC.", "VGOzA784oUp/Z0DY336zx7pLYAy0lwK", "U*U*"},
		{5, "XXXXXXXXXXXXXXXXXXXXXO", "AcXxm9kjPGEMsLznoKqmqw7tc8WCx4a", "U*U*U"},
		{5, "CCCCCCCCCCCCCCCCCCCCC.", "7uG0VCzI2bS7j6ymqJi9CdcdxiRTWNy", ""},
		{5, "/OK.fbVrR/bpIqNJ5ianF.", "Sa7shbm4.OzKpvFnX1pQLmQW96oUlCq", "\xa3"},
		{5, "abcdefghijklmnopqrstuu", "5s2v8.iXieOjg/.AySBTTZIIVFJeBui", "0123456789abcdefghijklmnopqrstuvwxyzABCDEFGHIJKLMNOPQRSTUVWXYZ0123456789chars after 72 are ignored"},
		{6, "DCq7YPn5Rq63x1Lad4cll.", "TV4S6ytwfsfvkgY8jIucDrjc8deX1s.", ""},
		{6, "m0CrhHm10qJ3lXRY.5zDGO", "3rS2KdeeWLuGmsfGlMfOxih58VYVfxe", "a"},
		{6, "If6bvum7DFjUnE9p2uDeDu", "0YHzrHM6tf.iqN8.yx.jNN1ILEf7h0i", "abc"},
		{6, ".rCVZVOThsIa97pEDOxvGu", "RRgzG64bvtJ0938xuqzv18d3ZpQhstC", "abcdefghijklmnopqrstuvwxyz"},
		{6, "fPIsBO8qRqkjj273rfaOI.", "HtSV9jLDpTbZn782DC6/t7qT67P6FfO", "~!@#$%^&*()      ~!@#$%^&*()PNBFRD"},
		{8, "HqWuK6/Ng6sg9gQzbLrgb.", "Tl.ZHfXLhvt/SgVyWhQqgqcZ7ZuUtye", ""},
		{8, "cfcvVd2aQ8CMvoMpP2EBfe", "odLEkkFJ9umNEfPD18.hUF62qqlC/V.", "a"},
		{8, "Ro0CUfOqk6cXEKf3dyaM7O", "hSCvnwM9s4wIX9JeLapehKK5YdLxKcm", "abc"},
		{10, "k1wbIrmNyFAPwPVPSVa/ze", "cw2BCEnBwVS2GbrmgzxFUOqW9dk4TCW", ""},
		{10, "k87L/MF28Q673VKh8/cPi.", "SUl7MU/rWuSiIDDFayrKk/1tBsSQu4u", "a"},
	}
	for _, k := range known {
		salt, err := letters.DecodeString(k.salt)
		if err != nil {
			t.Fatal(k.salt, err)
		}
		key := k.word + "\x00"
		c := made(t, k.cost, string(salt), key[:min(len(key), api.MaxKey)])
		var l []uint32
		for i := 0; i < len(magic); i += 4 {
			l = append(l, binary.BigEndian.Uint32([]byte(magic[i:])))
		}
		l, e := eks.Seal(c, 64, l...)
		if len(l) != 6 || e != api.OK {
			t.Fatal(l, e)
		}
		var tag []byte
		for _, w := range l {
			tag = binary.BigEndian.AppendUint32(tag, w)
		}
		if got := letters.EncodeToString(tag[:23]); got != k.tag {
			t.Errorf("%d %s %q: %s, not %s", k.cost, k.salt, k.word, got, k.tag)
		}
	}
}

// TestSetupIsNew: one cost, salt and key twice are two Ciphers.
func TestSetupIsNew(t *testing.T) {
	const salt, key = "1234567890123456", "key"
	c, d := made(t, 4, salt, key), made(t, 4, salt, key)
	if c == d || !same(c, d) {
		t.Fatal("not two that are the same")
	}
	c.Expand("salt", "key")
	if want := steps(4, salt, key); !same(d, want) || !same(made(t, 4, salt, key), want) {
		t.Error("the other one is changed, or the next one")
	}
}

// TestSetupTellsApart: another cost, salt or key is another Cipher.
func TestSetupTellsApart(t *testing.T) {
	const salt, key = "1234567890123456", "abcdefghijklmnop"
	seen := map[uint32]bool{}
	for _, c := range []*cipher.Cipher{
		made(t, 4, salt, key), made(t, 5, salt, key), made(t, 4, key, salt),
		made(t, 4, "1234567890123457", key), made(t, 4, "2234567890123456", key),
		made(t, 4, salt, "abcdefghijklmnoq"), made(t, 4, salt, "bbcdefghijklmnop"), made(t, 4, salt, "abcdefghijklmno"), made(t, 4, salt, key+"\x00"),
		cipher.Plain(), cipher.Plain().Expand(salt, key),
	} {
		if seen[c.Sum()] {
			t.Errorf("%08x twice", c.Sum())
		}
		seen[c.Sum()] = true
	}
}

// TestSetupRefused: each error, with all those behind it beside it; at a cost of 31, which would take hours, too.
func TestSetupRefused(t *testing.T) {
	good := strings.Repeat("s", 16)
	badSalts := []string{"", "s", good[:15], good + "s", good + good, strings.Repeat("s", 4096)}
	badKeys := []string{"", strings.Repeat("k", 73), strings.Repeat("k", 74), strings.Repeat("k", 144), strings.Repeat("\x00", 4096)}
	held := func(cost int, salt, key string, want api.Errno) {
		t.Helper()
		if c, e := eks.Setup(cost, salt, key); c != nil || e != want {
			t.Errorf("the cost %d, a salt of %d bytes, a key of %d: %v %d, not %d", cost, len(salt), len(key), c != nil, e, want)
		}
	}
	for _, cost := range beyond() {
		for _, salt := range append(badSalts, good) {
			for _, key := range append(badKeys, "k") {
				held(cost, salt, key, api.ErrParams)
			}
		}
	}
	for _, cost := range []int{4, 12, 31} {
		if t.Failed() { // what is not refused at a lesser cost would go on for hours
			return
		}
		for _, key := range append(badKeys, "k") {
			for _, salt := range badSalts {
				held(cost, salt, key, api.ErrSize)
			}
		}
		for _, key := range badKeys {
			held(cost, good, key, api.ErrLong)
		}
	}
}

// P11.3

func TestSeal(t *testing.T) {
	r := rand.New(rand.NewSource(3))
	c := made(t, 4, random(r, 16), "key")
	for _, times := range []int{0, 1, 2, 3, 63, 64, 65, 1023, 1024} {
		for _, n := range []int{0, 2, 4, 6, 8, 30} {
			l := several(r, n)
			got, e := eks.Seal(c, times, l...)
			if want := sealed(c, times, l); e != api.OK || !slices.Equal(got, want) {
				t.Errorf("%d times, %d words: %08x %d, not %08x", times, n, got, e, want)
			}
		}
	}
}

// TestSealKnown: eight bytes 0 under a key of eight bytes 0, as Blowfish's known answers have them.
func TestSealKnown(t *testing.T) {
	c, e := cipher.New(strings.Repeat("\x00", 8))
	if e != api.OK {
		t.Fatal(e)
	}
	want := []uint32{0x4ef99745, 0x6198dd78, 0x014933e0, 0xcdaff6e4}
	if l, e := eks.Seal(c, 1, 0, 0, 0xffffffff, 0xffffffff); e != api.OK || !slices.Equal(l, want) {
		t.Errorf("%08x %d", l, e)
	}
}

// TestSealBySide: what two words come to hangs on no other two, nor on where they stand.
func TestSealBySide(t *testing.T) {
	c := made(t, 4, "1234567890123456", "key")
	one, _ := eks.Seal(c, 7, 1, 2)
	l, e := eks.Seal(c, 7, 1, 2, 3, 4, 1, 2, 2, 1)
	if e != api.OK || len(l) != 8 || !slices.Equal(l[:2], one) || !slices.Equal(l[4:6], one) || slices.Equal(l[6:], one) {
		t.Errorf("%08x %08x %d", one, l, e)
	}
}

// TestSealLong: as many words as nobody seals at once.
func TestSealLong(t *testing.T) {
	c := made(t, 4, "1234567890123456", "key")
	l := several(rand.New(rand.NewSource(4)), 1<<16)
	if got, e := eks.Seal(c, 1, l...); e != api.OK || !slices.Equal(got, sealed(c, 1, l)) {
		t.Error(e)
	}
	if got, e := eks.Seal(c, 1, l[:len(l)-1]...); got != nil || e != api.ErrSize {
		t.Error(e)
	}
}

// TestSealAgain: so many times and then so many more are all of them at once; and they can be undone.
func TestSealAgain(t *testing.T) {
	c := made(t, 4, "1234567890123456", "key")
	l := []uint32{0, 0, 1, 0xffffffff}
	once, _ := eks.Seal(c, 300, l...)
	twice, _ := eks.Seal(c, 724, once...)
	whole, e := eks.Seal(c, 1024, l...)
	if e != api.OK || !slices.Equal(whole, twice) {
		t.Fatalf("%08x %d, not %08x", whole, e, twice)
	}
	x, y := whole[2], whole[3]
	for range 1024 {
		x, y = c.Decrypt(x, y)
	}
	if x != l[2] || y != l[3] {
		t.Errorf("back: %08x %08x", x, y)
	}
}

// TestSealRefused: each error, with all those behind it beside it.
func TestSealRefused(t *testing.T) {
	c := cipher.Plain()
	bad := []int{-1, -2, -1024, 1025, 2048, math.MaxInt32, 1 << 32, math.MaxInt, math.MinInt}
	held := func(c *cipher.Cipher, times, n int, want api.Errno) {
		t.Helper()
		if l, e := eks.Seal(c, times, make([]uint32, n)...); len(l) != 0 || e != want {
			t.Errorf("nil %v, %d times, %d words: %08x %d, not %d", c == nil, times, n, l, e, want)
		}
	}
	for n := range 8 {
		for _, times := range append(bad, 0, 1, 1024) {
			held(nil, times, n, api.ErrNone)
		}
		for _, times := range bad {
			held(c, times, n, api.ErrArg)
		}
		for _, times := range []int{0, 1, 64, 1024} {
			if n%2 == 1 {
				held(c, times, n, api.ErrSize)
			}
		}
	}
}

// TestSealOfNone: no words come to none, without an error.
func TestSealOfNone(t *testing.T) {
	c := cipher.Plain()
	for _, l := range [][]uint32{nil, {}, make([]uint32, 0, 4)} {
		if got, e := eks.Seal(c, 1, l...); len(got) != 0 || e != api.OK {
			t.Error(got, e)
		}
	}
	if got, e := eks.Seal(c, 1024); len(got) != 0 || e != api.OK {
		t.Error(got, e)
	}
}

// TestSealChangesNothing: neither the tables, nor the words, nor what lies behind them; the answer is a list by itself.
func TestSealChangesNothing(t *testing.T) {
	c := made(t, 4, "1234567890123456", "key")
	was := c.Clone()
	for _, times := range []int{0, 1, 5} {
		all := []uint32{1, 2, 3, 4, 5, 6}
		want := sealed(c, times, all[:4])
		got, e := eks.Seal(c, times, all[:4]...)
		if e != api.OK || !slices.Equal(all, []uint32{1, 2, 3, 4, 5, 6}) {
			t.Fatalf("%d times: %d, the words are %d", times, e, all)
		}
		for _, w := range got[len(got):cap(got)] {
			if w == 5 || w == 6 {
				t.Errorf("%d times: what lies behind is handed out", times)
			}
		}
		clear(all)
		if !slices.Equal(got, want) {
			t.Errorf("%d times: the answer is the words' own list", times)
		}
	}
	if !same(c, was) {
		t.Error("the tables are changed")
	}
}

// TestSealOfNobodyMade: a call with a Cipher that no call made ends.
func TestSealOfNobodyMade(t *testing.T) {
	eks.Seal(new(cipher.Cipher), 1024, 1, 2, 3, 4)
	eks.Seal(new(cipher.Cipher), 0)
}

// P11.4

// TestLesserCost: expanded as often as a cost's rounds are, its tables are those of the next cost.
func TestLesserCost(t *testing.T) {
	r := rand.New(rand.NewSource(5))
	for _, n := range []int{1, 8, 71, 72} {
		salt, key := random(r, 16), random(r, n)
		c := made(t, 4, salt, key)
		for cost := 4; cost < 9; cost++ {
			rounds, e := eks.Rounds(cost)
			if e != api.OK {
				t.Fatal(cost, e)
			}
			if !same(more(c, rounds, salt, key), made(t, cost+1, salt, key)) {
				t.Errorf("a key of %d bytes, from the cost %d on", n, cost)
			}
		}
	}
}
