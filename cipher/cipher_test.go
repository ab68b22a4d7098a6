package cipher_test

import (
	"encoding/base64"
	"encoding/binary"
	"encoding/hex"
	"fmt"
	"math/bits"
	"math/rand"
	"strings"
	"testing"

	"pestle/api"
	"pestle/cipher"
	"pestle/pi"
)

// halves is sixteen digits as two words.
func halves(t *testing.T, digits string) (uint32, uint32) {
	t.Helper()
	b, err := hex.DecodeString(digits)
	if err != nil || len(b) != 8 {
		t.Fatal(digits, err)
	}
	return binary.BigEndian.Uint32(b), binary.BigEndian.Uint32(b[4:])
}

// digits is two words as sixteen digits.
func digits(l, r uint32) string { return fmt.Sprintf("%08x%08x", l, r) }

// bytes is the text of digits.
func bytes(t *testing.T, digits string) string {
	t.Helper()
	b, err := hex.DecodeString(digits)
	if err != nil {
		t.Fatal(digits, err)
	}
	return string(b)
}

// made is New of a key that may be.
func made(t *testing.T, key string) *cipher.Cipher {
	t.Helper()
	c, e := cipher.New(key)
	if c == nil || e != api.OK {
		t.Fatalf("New(%q): %v %d", key, c, e)
	}
	return c
}

// random is a text of so many bytes, the same in each run.
func random(r *rand.Rand, n int) string {
	b := make([]byte, n)
	r.Read(b)
	return string(b)
}

// flat is the document's own steps, with all words in one list: p, and then the tables.
type flat [pi.Count]uint32

func plain(t *testing.T) *flat {
	t.Helper()
	f := new(flat)
	for i := range f {
		w, e := pi.Word(i)
		if e != api.OK {
			t.Fatal(i, e)
		}
		f[i] = w
	}
	return f
}

// table is the word of the table j at the byte behind so many higher bits.
func (f *flat) table(j int, x uint32) uint32 { return f[18+256*j+int(x>>(24-8*j)&255)] }

func (f *flat) mix(x uint32) uint32 {
	y := f.table(0, x) + f.table(1, x)
	y ^= f.table(2, x)
	return y + f.table(3, x)
}

// crypt goes through p by the places told, without changing places: every other round is the other way round.
func (f *flat) crypt(l, r uint32, places [18]int) (uint32, uint32) {
	for i := 0; i < 16; i += 2 {
		l ^= f[places[i]]
		r ^= f.mix(l)
		r ^= f[places[i+1]]
		l ^= f.mix(r)
	}
	return r ^ f[places[17]], l ^ f[places[16]]
}

func (f *flat) encrypt(l, r uint32) (uint32, uint32) {
	return f.crypt(l, r, [18]int{0, 1, 2, 3, 4, 5, 6, 7, 8, 9, 10, 11, 12, 13, 14, 15, 16, 17})
}

func (f *flat) decrypt(l, r uint32) (uint32, uint32) {
	return f.crypt(l, r, [18]int{17, 16, 15, 14, 13, 12, 11, 10, 9, 8, 7, 6, 5, 4, 3, 2, 1, 0})
}

// around is the i-th word of a text, round and round.
func around(text string, i int) uint32 {
	if text == "" {
		return 0
	}
	var b [4]byte
	for j := range b {
		b[j] = text[(4*i+j)%len(text)]
	}
	return binary.BigEndian.Uint32(b[:])
}

func (f *flat) expand(salt, key string) *flat {
	for i := range 18 {
		f[i] ^= around(key, i)
	}
	var l, r uint32
	for i := 0; i < len(f); i += 2 {
		l, r = f.encrypt(l^around(salt, i), r^around(salt, i+1))
		f[i], f[i+1] = l, r
	}
	return f
}

func (f *flat) sum() uint32 {
	var sum uint32
	for i, w := range f {
		sum += bits.RotateLeft32(w, i%32)
	}
	return sum
}

// differ tells where a Cipher is unlike the words it is to have: in its sum, or in what it makes of words.
func differ(c *cipher.Cipher, f *flat) string {
	if c == nil {
		return "nil"
	}
	if c.Sum() != f.sum() {
		return fmt.Sprintf("sum %08x, not %08x", c.Sum(), f.sum())
	}
	r := rand.New(rand.NewSource(int64(f.sum())))
	for range 40 {
		x, y := r.Uint32(), r.Uint32()
		if got, want := digits(c.Encrypt(x, y)), digits(f.encrypt(x, y)); got != want {
			return fmt.Sprintf("encrypt %08x %08x: %s, not %s", x, y, got, want)
		}
		if got, want := digits(c.Decrypt(x, y)), digits(f.decrypt(x, y)); got != want {
			return fmt.Sprintf("decrypt %08x %08x: %s, not %s", x, y, got, want)
		}
	}
	return ""
}

// edges are words at which sums wrap around, and those with one bit.
func edges() []uint32 {
	l := []uint32{0, 0xffffffff, 0x7fffffff, 0x00ff00ff, 0xff00ff00, 0x01020304, 0xfffefdfc}
	for i := range 32 {
		l = append(l, 1<<i)
	}
	return l
}

// P10.1

func TestPlain(t *testing.T) {
	if d := differ(cipher.Plain(), plain(t)); d != "" {
		t.Error(d)
	}
}

// TestPlainIsNew: each is a Cipher by itself, whatever was done to another one.
func TestPlainIsNew(t *testing.T) {
	c, d := cipher.Plain(), cipher.Plain()
	if c == d {
		t.Fatal("one Cipher twice")
	}
	c.Expand("salt", "key")
	if w := differ(d, plain(t)); w != "" {
		t.Error("the other one:", w)
	}
	if w := differ(cipher.Plain(), plain(t)); w != "" {
		t.Error("the next one:", w)
	}
}

// P10.2

// TestKnown: keys, words and what these are encrypted to, as Blowfish's known answers have them.
func TestKnown(t *testing.T) {
	known := `0000000000000000 0000000000000000 4ef997456198dd78
		ffffffffffffffff ffffffffffffffff 51866fd5b85ecb8a
		3000000000000000 1000000000000001 7d856f9a613063f2
		1111111111111111 1111111111111111 2466dd878b963c9d
		0123456789abcdef 1111111111111111 61f9c3802281b096
		1111111111111111 0123456789abcdef 7d0cc630afda1ec7
		fedcba9876543210 0123456789abcdef 0aceab0fc6a0a28d
		7ca110454a1a6e57 01a1d6d039776742 59c68245eb05282b
		0131d9619dc1376e 5cd54ca83def57da b1b8cc0b250f09a0
		07a1133e4a0b2686 0248d43806f67172 1730e5778bea1da4
		3849674c2602319e 51454b582ddf440a a25e7856cf2651eb
		04b915ba43feb5b6 42fd443059577fa2 353882b109ce8f1a
		0113b970fd34f2ce 059b5e0851cf143a 48f4d0884c379918
		0170f175468fb5e6 0756d8e0774761d2 432193b78951fc98
		43297fad38e373fe 762514b829bf486a 13f04154d69d1ae5
		07a7137045da2a16 3bdd119049372802 2eedda93ffd39c79
		04689104c2fd3b2f 26955f6835af609a d887e0393c2da6e3
		37d06bb516cb7546 164d5e404f275232 5f99d04f5b163969
		1f08260d1ac2465e 6b056e18759f5cca 4a057a3b24d3977b
		584023641aba6176 004bd6ef09176062 452031c1e4fada8e
		025816164629b007 480d39006ee762f2 7555ae39f59b87bd
		49793ebc79b3258f 437540c8698f3cfa 53c55f9cb49fc019
		4fb05e1515ab73a7 072d43a077075292 7a8e7bfa937e89a3
		49e95d6d4ca229bf 02fe55778117f12a cf9c5d7a4986adb5
		018310dc409b26d6 1d9d5c5018f728c2 d1abb290658bc778
		1c587f1c13924fef 305532286d6f295a 55cb3774d13ef201
		0101010101010101 0123456789abcdef fa34ec4847b268b2
		1f1f1f1f0e0e0e0e 0123456789abcdef a790795108ea3cae
		e0fee0fef1fef1fe 0123456789abcdef c39e072d9fac631d
		0000000000000000 ffffffffffffffff 014933e0cdaff6e4
		ffffffffffffffff 0000000000000000 f21e9a77b71c49bc
		0123456789abcdef 0000000000000000 245946885754369a
		fedcba9876543210 ffffffffffffffff 6b5c5a9c5d9e0a5a`
	for _, line := range strings.Split(known, "\n") {
		f := strings.Fields(line)
		c := made(t, bytes(t, f[0]))
		if got := digits(c.Encrypt(halves(t, f[1]))); got != f[2] {
			t.Errorf("%s: %s is encrypted to %s, not %s", f[0], f[1], got, f[2])
		}
		if got := digits(c.Decrypt(halves(t, f[2]))); got != f[1] {
			t.Errorf("%s: %s is decrypted to %s, not %s", f[0], f[2], got, f[1])
		}
	}
}

func TestCryptByTheSteps(t *testing.T) {
	for _, key := range []string{"a", "key", "\x00", "\xff\xff\xff\xff", strings.Repeat("long", 18)} {
		c, f := made(t, key), plain(t).expand("", key)
		for _, l := range edges() {
			for _, r := range edges() {
				if got, want := digits(c.Encrypt(l, r)), digits(f.encrypt(l, r)); got != want {
					t.Fatalf("%q: %08x %08x is encrypted to %s, not %s", key, l, r, got, want)
				}
				if got, want := digits(c.Decrypt(l, r)), digits(f.decrypt(l, r)); got != want {
					t.Fatalf("%q: %08x %08x is decrypted to %s, not %s", key, l, r, got, want)
				}
			}
		}
	}
}

// TestCryptChangesNothing: the tables are as they were.
func TestCryptChangesNothing(t *testing.T) {
	c := made(t, "key")
	was, first := c.Sum(), digits(c.Encrypt(1, 2))
	for i := range uint32(100) {
		c.Encrypt(i, ^i)
		c.Decrypt(^i, i)
	}
	if c.Sum() != was || digits(c.Encrypt(1, 2)) != first {
		t.Error("changed")
	}
}

// P10.3

// TestKnownKeys: keys of 1 to 24 bytes, as Blowfish's known answers have them.
func TestKnownKeys(t *testing.T) {
	key := bytes(t, "f0e1d2c3b4a5968778695a4b3c2d1e0f0011223344556677")
	known := strings.Fields(`f9ad597c49db005e e91d21c1d961a6d6 e9c2b70a1bc65cf3 be1e639408640f05
		b39e44481bdb1e6e 9457aa83b1928c0d 8bb77032f960629d e87a244e2cc85e82
		15750e7a4f4ec577 122ba70b3ab64ae0 3a833c9affc537f6 9409da87a90f6bf2
		884f80625060b8b4 1f85031c19e11968 79d9373a714ca34f 93142887ee3be15c
		03429e838ce2d14b a4299e27469ff67b afd5aed1c1bc96a8 10851c0e3858da9f
		e6f51ed79b9db21f 64a6e14afd36b46f 80c7d7d45a5479ad 05044b62fa52d080`)
	l, r := halves(t, "fedcba9876543210")
	for i, want := range known {
		if got := digits(cipher.Plain().Expand("", key[:i+1]).Encrypt(l, r)); got != want {
			t.Errorf("%d bytes: %s, not %s", i+1, got, want)
		}
	}
}

// TestExpand: salts and keys without bytes, of whole words, and of lengths at which words go round.
func TestExpand(t *testing.T) {
	r := rand.New(rand.NewSource(10))
	lengths := []int{0, 1, 2, 3, 4, 5, 7, 8, 15, 16, 17, 71, 72, 73}
	for _, n := range lengths {
		for _, m := range lengths {
			salt, key := random(r, n), random(r, m)
			if d := differ(cipher.Plain().Expand(salt, key), plain(t).expand(salt, key)); d != "" {
				t.Errorf("a salt of %d bytes, a key of %d: %s", n, m, d)
			}
		}
	}
}

// TestExpandLong: salts and keys whose bytes don't all count: 18 words do of a key, and 1,042 of a salt.
func TestExpandLong(t *testing.T) {
	r := rand.New(rand.NewSource(11))
	for _, n := range []int{74, 100, 4167, 4168, 4169, 5000} {
		salt, key := random(r, n), random(r, n)
		f := plain(t).expand(salt, key)
		if d := differ(cipher.Plain().Expand(salt, key), f); d != "" {
			t.Errorf("%d bytes: %s", n, d)
		}
		if n > 72 {
			if d := differ(cipher.Plain().Expand(salt, key[:72]), f); d != "" {
				t.Errorf("%d bytes: the first 72 alone: %s", n, d)
			}
		}
	}
}

// TestExpandAgain: what is in the tables already counts.
func TestExpandAgain(t *testing.T) {
	c, f := cipher.Plain(), plain(t)
	for i, s := range []string{"", "key", "\x00\x00\x00\x00", "a longer one", "key", ""} {
		salt := strings.Repeat("s", i)
		if d := differ(c.Expand(salt, s), f.expand(salt, s)); d != "" {
			t.Fatalf("%d: %s", i, d)
		}
	}
}

// TestExpandItself: the Cipher itself is changed, and answered.
func TestExpandItself(t *testing.T) {
	c := cipher.Plain()
	was := c.Sum()
	if d := c.Expand("salt", "key"); d != c {
		t.Fatal("another Cipher")
	}
	if c.Sum() == was {
		t.Error("not changed")
	}
	if d := differ(c, plain(t).expand("salt", "key")); d != "" {
		t.Error(d)
	}
}

// TestExpandNoBytes: a text without bytes is as one of bytes 0.
func TestExpandNoBytes(t *testing.T) {
	want := cipher.Plain().Expand("", "").Sum()
	for _, s := range []string{"\x00", "\x00\x00\x00", "\x00\x00\x00\x00\x00\x00\x00\x00"} {
		if cipher.Plain().Expand(s, "").Sum() != want || cipher.Plain().Expand("", s).Sum() != want {
			t.Errorf("%d bytes 0", len(s))
		}
	}
	if cipher.Plain().Sum() == want {
		t.Error("nothing was done")
	}
}

// TestKnownString: a string of bcrypt whose password is known, all of it made by Expand and Encrypt.
func TestKnownString(t *testing.T) {
	letters := base64.NewEncoding("./ABCDEFGHIJKLMNOPQRSTUVWXYZabcdefghijklmnopqrstuvwxyz0123456789").WithPadding(base64.NoPadding)
	salt, err := letters.DecodeString("CCCCCCCCCCCCCCCCCCCCC.")
	if err != nil {
		t.Fatal(err)
	}
	key := "U*U\x00"
	c := cipher.Plain().Expand(string(salt), key)
	for range 1 << 5 {
		c.Expand("", key).Expand("", string(salt))
	}
	var tag []byte
	for magic := "OrpheanBeholderScryDoubt"; magic != ""; magic = magic[8:] {
		l, r := around(magic, 0), around(magic, 1)
		for range 64 {
			l, r = c.Encrypt(l, r)
		}
		tag = binary.BigEndian.AppendUint32(binary.BigEndian.AppendUint32(tag, l), r)
	}
	if got := letters.EncodeToString(tag[:23]); got != "E5YPO9kmyuRGyh0XouQYb4YMJKvyOeW" {
		t.Error(got)
	}
}

// P10.4

func TestNew(t *testing.T) {
	r := rand.New(rand.NewSource(12))
	for n := 1; n <= api.MaxKey; n++ {
		key := random(r, n)
		if d := differ(made(t, key), plain(t).expand("", key)); d != "" {
			t.Errorf("%d bytes: %s", n, d)
		}
	}
}

func TestNewRefused(t *testing.T) {
	for _, n := range []int{0, api.MaxKey + 1, api.MaxKey + 2, 2 * api.MaxKey, 256, 256 + 8, 1<<16 + 8} {
		if c, e := cipher.New(strings.Repeat("k", n)); c != nil || e != api.ErrArg {
			t.Errorf("%d bytes: %v %d", n, c, e)
		}
	}
}

// TestNewIsNew: one key twice is two Ciphers.
func TestNewIsNew(t *testing.T) {
	c, d := made(t, "key"), made(t, "key")
	was := d.Sum()
	if c == d || c.Sum() != was {
		t.Fatal("not two that are the same")
	}
	if c.Expand("", "more"); d.Sum() != was {
		t.Error("the other one is changed")
	}
}

func TestClone(t *testing.T) {
	c := made(t, "key")
	d := c.Clone()
	f := plain(t).expand("", "key")
	if c == d {
		t.Fatal("the same object")
	}
	if w := differ(d, f); w != "" {
		t.Fatal(w)
	}
	c.Expand("salt", "one")
	if w := differ(d, f); w != "" {
		t.Error("the clone is changed:", w)
	}
	e := d.Clone().Expand("salt", "other")
	if w := differ(d, f); w != "" {
		t.Error("what was cloned is changed:", w)
	}
	if w := differ(c, f.expand("salt", "one")); w != "" {
		t.Error("the first one:", w)
	}
	if w := differ(e, plain(t).expand("", "key").expand("salt", "other")); w != "" {
		t.Error("the clone's clone:", w)
	}
}

// TestSum: of the words of pi, and of those that salts and keys make of them again and again.
func TestSum(t *testing.T) {
	if got, want := cipher.Plain().Sum(), plain(t).sum(); got != want {
		t.Errorf("Plain: %08x, not %08x", got, want)
	}
	c := made(t, "key")
	if c.Sum() != c.Sum() {
		t.Error("not the same twice")
	}
	r := rand.New(rand.NewSource(13))
	f := plain(t).expand("", "key")
	for range 50 {
		salt, key := random(r, r.Intn(30)), random(r, r.Intn(80))
		if got, want := c.Expand(salt, key).Sum(), f.expand(salt, key).sum(); got != want {
			t.Fatalf("%08x, not %08x", got, want)
		}
	}
}

func TestNil(t *testing.T) {
	var c *cipher.Cipher
	if l, r := c.Encrypt(1, 2); l != 0 || r != 0 {
		t.Error("Encrypt", l, r)
	}
	if l, r := c.Decrypt(1, 2); l != 0 || r != 0 {
		t.Error("Decrypt", l, r)
	}
	if c.Expand("salt", "key") != nil || c.Expand("", "") != nil {
		t.Error("Expand")
	}
	if c.Clone() != nil {
		t.Error("Clone")
	}
	if c.Sum() != 0 {
		t.Error("Sum")
	}
}

// TestNobodyMade: calls of a Cipher that no call made end.
func TestNobodyMade(t *testing.T) {
	c := new(cipher.Cipher)
	c.Encrypt(1, 2)
	c.Decrypt(1, 2)
	c.Clone().Expand("salt", "key")
	c.Sum()
	c.Expand("", "")
}

// P10.5

func TestThereAndBack(t *testing.T) {
	r := rand.New(rand.NewSource(14))
	for _, c := range []*cipher.Cipher{cipher.Plain(), made(t, "k"), made(t, random(r, 72)), cipher.Plain().Expand(random(r, 16), random(r, 9))} {
		was := c.Sum()
		for _, l := range edges() {
			for _, r := range edges() {
				if x, y := c.Decrypt(c.Encrypt(l, r)); x != l || y != r {
					t.Fatalf("there and back: %08x %08x, not %08x %08x", x, y, l, r)
				}
				if x, y := c.Encrypt(c.Decrypt(l, r)); x != l || y != r {
					t.Fatalf("back and there: %08x %08x, not %08x %08x", x, y, l, r)
				}
			}
		}
		if c.Sum() != was {
			t.Error("changed")
		}
	}
}
