package pbkdf_test

import (
	"crypto/hmac"
	"crypto/pbkdf2"
	"crypto/sha256"
	"encoding/binary"
	"encoding/hex"
	"math"
	"math/rand"
	"strings"
	"testing"

	"pestle/api"
	"pestle/feed"
	"pestle/mac"
	"pestle/pbkdf"
	"pestle/sha"
)

// text is n bytes of all kinds, that go on another way every 251 bytes.
func text(n int) string {
	b := make([]byte, n)
	for i := range b {
		b[i] = byte(i%251 + i/251)
	}
	return string(b)
}

// known is a key by another PBKDF2.
func known(t *testing.T, word, salt string, rounds, bytes int) string {
	t.Helper()
	k, err := pbkdf2.Key(sha256.New, word, []byte(salt), rounds, bytes)
	if err != nil {
		t.Fatal(err)
	}
	return string(k)
}

// part is a part as the document tells it, by another HMAC: of a key to which some bytes came already.
func part(word, came, salt string, rounds, i int) string {
	tag := func(s string) []byte {
		h := hmac.New(sha256.New, []byte(word))
		h.Write([]byte(came + s))
		return h.Sum(nil)
	}
	last := tag(salt + string(binary.BigEndian.AppendUint32(nil, uint32(i))))
	all := append([]byte{}, last...)
	for range rounds - 1 {
		last = tag(string(last))
		for j := range all {
			all[j] ^= last[j]
		}
	}
	return string(all)
}

// keyIs tells of a key that is another one than is wanted, or has an error.
func keyIs(t *testing.T, word, salt string, rounds, bytes int, want string) {
	t.Helper()
	if k, e := pbkdf.Key(word, salt, rounds, bytes); k != want || e != api.OK {
		t.Errorf("a password of %d bytes, a salt of %d, %d rounds, %d bytes: %x, %d, not %x", len(word), len(salt), rounds, bytes, k, e, want)
	}
}

// partIs tells of a part that is another one than is wanted, or has an error.
func partIs(t *testing.T, m *mac.Mac, salt string, rounds, i int, want string) {
	t.Helper()
	if s, e := pbkdf.Part(m, salt, rounds, i); s != want || e != api.OK {
		t.Errorf("a salt of %d bytes, %d rounds, part %d: %x, %d, not %x", len(salt), rounds, i, s, e, want)
	}
}

// none are numbers that no rounds, and no part, may have.
func none() []int {
	return []int{math.MinInt, math.MinInt + 1, -1 << 62, -1<<32 + 1, -1 << 32, -1 << 31, -2, -1, 0, 1 << 32, 1<<32 + 1, 1<<32 + 2, 1 << 33, 1 << 62, 1<<62 + 1, 1<<63 - 1<<32 + 1, math.MaxInt}
}

// noSizes are numbers of bytes that no key may have.
func noSizes() []int {
	return []int{math.MinInt, math.MinInt + 1, -1 << 32, -1 << 16, -32, -2, -1, 0, 1<<16 + 1, 1<<16 + 2, 1<<16 + 32, 1 << 17, 1 << 31, 1 << 32, 1<<32 + 1, 1<<32 + 32, 1 << 62, math.MaxInt}
}

// P22.1

func TestCheck(t *testing.T) {
	rounds := []int{1, 2, 3, 1000, 600000, 1<<31 - 1, 1 << 31, 1<<32 - 2, 1<<32 - 1}
	sizes := []int{1, 2, 31, 32, 33, 64, 1024, 1025, 1<<16 - 1, 1 << 16}
	for _, r := range rounds {
		for _, n := range sizes {
			if e := pbkdf.Check(r, n); e != api.OK {
				t.Errorf("%d, %d: %d", r, n, e)
			}
		}
		for _, n := range noSizes() {
			if e := pbkdf.Check(r, n); e != api.ErrParams {
				t.Errorf("%d, %d: %d", r, n, e)
			}
		}
	}
	for _, r := range none() {
		for _, n := range append(sizes, noSizes()...) {
			if e := pbkdf.Check(r, n); e != api.ErrParams {
				t.Errorf("%d, %d: %d", r, n, e)
			}
		}
	}
}

// TestCheckLimits: the numbers of the chapter are those that api names.
func TestCheckLimits(t *testing.T) {
	if e := pbkdf.Check(api.MaxWide, api.MaxLong); e != api.OK {
		t.Error(e)
	}
	if e := pbkdf.Check(api.MaxWide+1, api.MaxLong); e != api.ErrParams {
		t.Error(e)
	}
	if e := pbkdf.Check(api.MaxWide, api.MaxLong+1); e != api.ErrParams {
		t.Error(e)
	}
}

func TestCheckEachSize(t *testing.T) {
	for n := -100; n < 1<<16+100; n++ {
		want := api.ErrParams
		if n >= 1 && n <= 65536 {
			want = api.OK
		}
		if e := pbkdf.Check(1, n); e != want {
			t.Errorf("%d bytes: %d", n, e)
		}
	}
}

// P22.2

func TestPart(t *testing.T) {
	for _, word := range []string{"", "key", text(32), text(63), text(64), text(65), text(200)} {
		for _, salt := range []string{"", "\x00", "salt", text(31), text(55), text(60), text(64), text(130)} {
			for rounds := 1; rounds <= 5; rounds++ {
				for _, i := range []int{1, 2, 3, 255, 256, 257} {
					partIs(t, mac.New(word), salt, rounds, i, part(word, "", salt, rounds, i))
				}
			}
		}
	}
}

// TestPartNumbers: each byte of a part's number, the highest one first, up to the greatest number.
func TestPartNumbers(t *testing.T) {
	seen := map[string]int{}
	m := mac.New("key")
	for _, i := range []int{1, 2, 0x80, 0xff, 0x100, 0x102, 0x201, 0xffff, 0x10000, 0x10203, 0x30201, 0xffffff, 0x1000000, 0x1020304, 0x4030201, 1<<31 - 1, 1 << 31, 1<<31 + 1, 1<<32 - 2, 1<<32 - 1} {
		partIs(t, m, "salt", 2, i, part("key", "", "salt", 2, i))
		s, _ := pbkdf.Part(m, "salt", 2, i)
		if j, ok := seen[s]; ok {
			t.Errorf("parts %d and %d are alike", j, i)
		}
		seen[s] = i
	}
	one := m.With("salt", "\xff\xff\xff\xff").Tag()
	partIs(t, m, "salt", 1, api.MaxWide, one)
}

// TestPartRounds: of one round the tag, of two the tag and its tag put together, and so on up to many.
func TestPartRounds(t *testing.T) {
	m := mac.New("key")
	partIs(t, m, "salt", 1, 1, m.With("salt\x00\x00\x00\x01").Tag())
	for _, rounds := range []int{1, 2, 3, 4, 31, 32, 33, 255, 256, 257, 1000, 4096} {
		partIs(t, m, "salt", rounds, 7, part("key", "", "salt", rounds, 7))
	}
}

// TestPartCame: what came to the Mac ahead comes into each tag of its chain, not into the first one alone.
func TestPartCame(t *testing.T) {
	for _, came := range []string{"c", text(31), text(63), text(64), text(65), text(200)} {
		m := mac.New("key").With(came[:1], came[1:])
		for rounds := 1; rounds <= 4; rounds++ {
			for i := 1; i <= 3; i++ {
				partIs(t, m, "salt", rounds, i, part("key", came, "salt", rounds, i))
			}
		}
		s, _ := pbkdf.Part(m, "salt", 2, 1)
		if k, _ := pbkdf.Key("key", came+"salt", 2, 32); s == k {
			t.Error("what came is as if it were of the salt")
		}
	}
}

// TestPartStays: the Mac that is asked stays, whatever the answer.
func TestPartStays(t *testing.T) {
	m := mac.New("key").With("came")
	tag, sum := m.Tag(), m.Sum()
	for _, c := range []struct{ rounds, i int }{{1, 1}, {5, 9}, {0, 1}, {1, 0}, {-1, -1}, {1, 1 << 32}, {3, 1<<32 - 1}} {
		one, e := pbkdf.Part(m, "salt", c.rounds, c.i)
		other, f := pbkdf.Part(m, "salt", c.rounds, c.i)
		if one != other || e != f {
			t.Errorf("%d, %d: %x, %d, then %x, %d", c.rounds, c.i, one, e, other, f)
		}
		if m.Tag() != tag || m.Sum() != sum || m.Total() != 68 {
			t.Errorf("%d, %d: the Mac is another one", c.rounds, c.i)
		}
	}
}

// wrongPart tells of a part that should not be.
func wrongPart(t *testing.T, m *mac.Mac, rounds, i int, want api.Errno) {
	t.Helper()
	if s, e := pbkdf.Part(m, "salt", rounds, i); s != "" || e != want {
		t.Errorf("%d rounds, part %d: %x, %d, not %d", rounds, i, s, e, want)
	}
}

// TestPartWrong: the errors, and none is told behind a chain of many rounds.
func TestPartWrong(t *testing.T) {
	m := mac.New("key")
	good := []int{1, 2, 1 << 31, api.MaxWide}
	for _, n := range none() {
		for _, g := range append(good, none()...) {
			wrongPart(t, m, n, g, api.ErrParams)
			wrongPart(t, m, g, n, api.ErrParams)
		}
	}
	for _, n := range append(good, none()...) {
		for _, i := range append(good, none()...) {
			wrongPart(t, nil, n, i, api.ErrNone)
		}
	}
}

// TestKeyKnown: keys of RFC 7914, the document's own, and others that are known, of HMAC-SHA-256.
func TestKeyKnown(t *testing.T) {
	for _, c := range []struct {
		word, salt string
		rounds     int
		key        string
	}{
		{"passwd", "salt", 1, "55ac046e56e3089fec1691c22544b605f94185216dde0465e68b9d57c20dacbc49ca9cccf179b645991664b39d77ef317c71b845b1e30bd509112041d3a19783"},
		{"Password", "NaCl", 80000, "4ddcd8f60b98be21830cee5ef22701f9641a4418d04c0414aeff08876b34ab56a1d425a1225833549adb841b51c9b3176a272bdebba1d078478f62b397f33c8d"},
		{"password", "salt", 1, "120fb6cffcf8b32c43e7225256c4f837a86548c9"},
		{"password", "salt", 2, "ae4d0c95af6b46d32d0adff928f06dd02a303f8e"},
		{"password", "salt", 4096, "c5e478d59288c841aa530db6845c4c8d962893a0"},
		{"passwordPASSWORDpassword", "saltSALTsaltSALTsaltSALTsaltSALTsalt", 4096, "348c89dbcbd32b2f32d814b8116e84cf2b17347ebc1800181c"},
		{"pass\x00word", "sa\x00lt", 4096, "89b69d0516f829893c696226650a8687"},
	} {
		want, err := hex.DecodeString(c.key)
		if err != nil {
			t.Fatal(err)
		}
		keyIs(t, c.word, c.salt, c.rounds, len(want), string(want))
	}
}

// TestKeySizes: each size about the ends of the first parts, and the greatest ones.
func TestKeySizes(t *testing.T) {
	for _, rounds := range []int{1, 2, 3} {
		all := known(t, "key", "salt", rounds, 300)
		for n := 1; n <= len(all); n++ {
			keyIs(t, "key", "salt", rounds, n, all[:n])
		}
	}
	for _, n := range []int{1024, 8159, 8160, 8161, 8192, 8193, 65503, 65504, 65505, 65535, 65536} {
		keyIs(t, "key", "salt", 1, n, known(t, "key", "salt", 1, n))
	}
}

// TestKeyWords: passwords and salts of all lengths about the ends of what a block holds.
func TestKeyWords(t *testing.T) {
	for _, n := range []int{0, 1, 8, 31, 32, 33, 51, 52, 55, 56, 60, 63, 64, 65, 66, 127, 128, 129, 1000, 4096} {
		for _, m := range []int{0, 1, 8, 31, 32, 51, 52, 55, 59, 60, 61, 63, 64, 65, 128, 1000} {
			keyIs(t, text(n), text(m), 2, 70, known(t, text(n), text(m), 2, 70))
		}
	}
	long := text(1 << 17)
	keyIs(t, long, "salt", 2, 40, known(t, long, "salt", 2, 40))
	keyIs(t, "key", long, 2, 40, known(t, "key", long, 2, 40))
	keyIs(t, "", "", 1, 33, known(t, "", "", 1, 33))
}

// TestKeyRounds: keys of more than one part by many rounds.
func TestKeyRounds(t *testing.T) {
	for _, rounds := range []int{1, 2, 3, 4, 5, 10, 99, 100, 101, 255, 256, 257, 1000} {
		keyIs(t, "key", text(20), rounds, 100, known(t, "key", text(20), rounds, 100))
	}
}

// TestKeyByParts: a key is its parts one behind the other, from the first one on.
func TestKeyByParts(t *testing.T) {
	m := mac.New("word")
	want := ""
	for i := 1; i <= 300; i++ {
		s, e := pbkdf.Part(m, "salt", 2, i)
		if len(s) != 32 || e != api.OK {
			t.Fatalf("part %d has %d bytes, %d", i, len(s), e)
		}
		want += s
	}
	for _, n := range []int{1, 31, 32, 33, 64, 65, 1000, 8160, 8161, 9600} {
		keyIs(t, "word", "salt", 2, n, want[:n])
	}
}

func TestKeyByChance(t *testing.T) {
	r := rand.New(rand.NewSource(22))
	some := func(most int) string {
		b := make([]byte, r.Intn(most))
		r.Read(b)
		return string(b)
	}
	for range 300 {
		word, salt, rounds, n := some(150), some(150), 1+r.Intn(20), 1+r.Intn(200)
		keyIs(t, word, salt, rounds, n, known(t, word, salt, rounds, n))
	}
}

// TestKeyAgain: a key hangs on its arguments alone.
func TestKeyAgain(t *testing.T) {
	first, _ := pbkdf.Key("key", "salt", 3, 100)
	pbkdf.Key("other", "salt", 2, 40)
	pbkdf.Key("key", "other", 0, 40)
	keyIs(t, "key", "salt", 3, 100, first)
	for _, c := range []struct {
		word, salt string
		rounds     int
	}{{"kez", "salt", 3}, {"key", "sals", 3}, {"keys", "alt", 3}, {"key", "salt", 2}, {"", "keysalt", 3}} {
		if k, e := pbkdf.Key(c.word, c.salt, c.rounds, 100); k == first || e != api.OK {
			t.Errorf("%q, %q, %d: the same key, %d", c.word, c.salt, c.rounds, e)
		}
	}
}

// TestKeyWrong: Check's error, with no key beside it, and told ahead of all rounds.
func TestKeyWrong(t *testing.T) {
	wrong := func(rounds, bytes int) {
		t.Helper()
		if k, e := pbkdf.Key("key", "salt", rounds, bytes); k != "" || e != api.ErrParams {
			t.Errorf("%d rounds, %d bytes: %x, %d", rounds, bytes, k, e)
		}
	}
	for _, n := range noSizes() {
		for _, rounds := range []int{1, 2, 1 << 31, api.MaxWide} {
			wrong(rounds, n)
		}
	}
	for _, rounds := range none() {
		for _, n := range append([]int{1, 32, 33, 1 << 16}, noSizes()...) {
			wrong(rounds, n)
		}
	}
}

// TestNobodyMade: a part of a Mac that no call made ends without a panic (R1); what it is is promised nowhere.
func TestNobodyMade(t *testing.T) {
	for _, h := range []*sha.Hash{nil, {}, {Feed: &feed.Feed{}}, sha.New()} {
		taken := mac.New("key")
		taken.Hash = h
		for _, m := range []*mac.Mac{{Hash: h}, taken} {
			pbkdf.Part(m, "", 1, 1)
			pbkdf.Part(m, text(200), 3, api.MaxWide)
			wrongPart(t, m, 0, 1, api.ErrParams)
			wrongPart(t, m, 1, 0, api.ErrParams)
		}
	}
}

// P22.3

// TestShorter: each shorter key is the beginning of a longer one, about the ends of parts and far from them.
func TestShorter(t *testing.T) {
	for _, word := range []string{"", "key", text(65)} {
		long, e := pbkdf.Key(word, "salt", 2, 2000)
		if len(long) != 2000 || e != api.OK {
			t.Fatalf("%d bytes, %d", len(long), e)
		}
		for n := 1; n < len(long); n += 1 + n/50 {
			k, e := pbkdf.Key(word, "salt", 2, n)
			if len(k) != n || e != api.OK || !strings.HasPrefix(long, k) {
				t.Errorf("%d bytes are not the beginning: %x, %d", n, k, e)
			}
		}
	}
	whole, _ := pbkdf.Key("key", "salt", 1, 1<<16)
	for _, n := range []int{1, 32, 33, 1024, 65505, 65535} {
		if k, e := pbkdf.Key("key", "salt", 1, n); len(k) != n || e != api.OK || !strings.HasPrefix(whole, k) {
			t.Errorf("%d bytes are not the beginning, %d", n, e)
		}
	}
}
