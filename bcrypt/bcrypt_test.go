package bcrypt_test

import (
	"crypto/sha256"
	"encoding/base64"
	"encoding/binary"
	"encoding/hex"
	"fmt"
	"math"
	"math/rand"
	"strings"
	"testing"

	"pestle/api"
	"pestle/bcrypt"
	"pestle/cipher"
)

const plainSalt = "1234567890123456"

// letters are bcrypt's own, without padding.
var letters = base64.NewEncoding("./ABCDEFGHIJKLMNOPQRSTUVWXYZabcdefghijklmnopqrstuvwxyz0123456789").WithPadding(base64.NoPadding)

// beyond are costs that may not be.
func beyond() []int {
	return []int{3, 32, 0, 1, 2, -1, -4, -31, 33, 36, 63, 64, 68, 256 + 4, 1<<16 + 4, math.MaxInt32, math.MinInt32, 1<<32 + 4, 1<<62 + 4, math.MaxInt, math.MinInt, math.MinInt + 4}
}

// random is a text of so many bytes, the same in each run.
func random(r *rand.Rand, n int) string {
	b := make([]byte, n)
	r.Read(b)
	return string(b)
}

// letterly is a text of so many small letters, so that no byte of it is 0.
func letterly(r *rand.Rand, n int) string {
	b := make([]byte, n)
	for i := range b {
		b[i] = byte('a' + r.Intn(26))
	}
	return string(b)
}

// made is Sum of what may be; it has 23 bytes.
func made(t *testing.T, cost int, salt, word string) string {
	t.Helper()
	s, e := bcrypt.Sum(cost, salt, word)
	if len(s) != 23 || e != api.OK {
		t.Fatalf("Sum(%d, %q, %q): %x %d", cost, salt, word, s, e)
	}
	return s
}

// steps is the document's own steps, by layer 10 alone.
func steps(cost int, salt, word string) string {
	key := word + "\x00"
	if len(key) > 72 {
		key = key[:72]
	}
	c := cipher.Plain().Expand(salt, key)
	for i := 0; i < 1<<cost; i++ {
		c.Expand("", key)
		c.Expand("", salt)
	}
	b := []byte("OrpheanBeholderScryDoubt")
	for at := 0; at < len(b); at += 8 {
		l, r := binary.BigEndian.Uint32(b[at:]), binary.BigEndian.Uint32(b[at+4:])
		for i := 0; i < 64; i++ {
			l, r = c.Encrypt(l, r)
		}
		binary.BigEndian.PutUint32(b[at:], l)
		binary.BigEndian.PutUint32(b[at+4:], r)
	}
	return string(b[:23])
}

// P26.1, and that Sum has its errors

// refused tells of Check and of Sum that they answer another error.
func refused(t *testing.T, cost int, salt, word string, want api.Errno) {
	t.Helper()
	if e := bcrypt.Check(cost, salt, word); e != want {
		t.Fatalf("Check of the cost %d, a salt of %d bytes, a password of %d: %d, not %d", cost, len(salt), len(word), e, want)
	}
	if s, e := bcrypt.Sum(cost, salt, word); s != "" || e != want {
		t.Fatalf("Sum of the cost %d, a salt of %d bytes, a password of %d: %x %d, not %d", cost, len(salt), len(word), s, e, want)
	}
}

// TestCheck: all costs, and lengths of salts and of passwords, about the edges; Sum is asked of what may not be alone, as high costs take long.
func TestCheck(t *testing.T) {
	for cost := -2; cost <= 40; cost++ {
		for salt := range 40 {
			for word := range 80 {
				want := api.OK
				switch {
				case cost < 4 || cost > 31:
					want = api.ErrParams
				case salt != 16:
					want = api.ErrSize
				case word > 72:
					want = api.ErrLong
				}
				s, w := strings.Repeat("s", salt), strings.Repeat("w", word)
				if want != api.OK {
					refused(t, cost, s, w, want)
				} else if e := bcrypt.Check(cost, s, w); e != want {
					t.Fatalf("Check of the cost %d, a salt of %d bytes, a password of %d: %d", cost, salt, word, e)
				}
			}
		}
	}
}

// TestCheckFar: costs and lengths far beyond; each error with all those behind it beside it.
func TestCheckFar(t *testing.T) {
	badSalts := []string{"", "s", plainSalt[:15], plainSalt + "7", plainSalt + plainSalt, strings.Repeat("s", 256+16), strings.Repeat("\x00", 1<<16+16)}
	badWords := []string{strings.Repeat("w", 73), strings.Repeat("\x00", 73), strings.Repeat("w", 144), strings.Repeat("w", 256), strings.Repeat("w", 4096), strings.Repeat("w", 1<<16+8), strings.Repeat("w", 1<<20)}
	for _, cost := range beyond() {
		for _, salt := range append(badSalts, plainSalt) {
			for _, word := range append(badWords, "", "word") {
				refused(t, cost, salt, word, api.ErrParams)
			}
		}
	}
	for _, cost := range []int{4, 5, 30, 31} {
		for _, word := range append(badWords, "", "word") {
			for _, salt := range badSalts {
				refused(t, cost, salt, word, api.ErrSize)
			}
		}
		for _, word := range badWords {
			refused(t, cost, plainSalt, word, api.ErrLong)
		}
	}
}

// TestCheckCountsBytes: a salt and a password have as many bytes as they have, whatever these are, letters of two bytes among them.
func TestCheckCountsBytes(t *testing.T) {
	for _, c := range []struct {
		salt, word string
		want       api.Errno
	}{
		{strings.Repeat("é", 8), strings.Repeat("é", 36), api.OK},
		{strings.Repeat("é", 16), "", api.ErrSize},
		{plainSalt, strings.Repeat("é", 37), api.ErrLong},
		{plainSalt, strings.Repeat("é", 72), api.ErrLong},
		{strings.Repeat("\x00", 16), strings.Repeat("\x00", 72), api.OK},
		{strings.Repeat("\x00", 15), "", api.ErrSize},
		{strings.Repeat("\xff", 16), strings.Repeat("\xff", 72), api.OK},
	} {
		if c.want != api.OK {
			refused(t, 4, c.salt, c.word, c.want)
		} else if e := bcrypt.Check(31, c.salt, c.word); e != c.want {
			t.Errorf("%q, %q: %d, not %d", c.salt, c.word, e, c.want)
		}
	}
}

// P26.2

// TestKey: passwords of all lengths about the edge, and of any bytes.
func TestKey(t *testing.T) {
	r := rand.New(rand.NewSource(2600))
	for n := range 300 {
		for _, word := range []string{random(r, n), letterly(r, n), strings.Repeat("\x00", n), strings.Repeat("\xff", n)} {
			want := word + "\x00"
			if len(want) > 72 {
				want = want[:72]
			}
			if got := bcrypt.Key(word); got != want {
				t.Errorf("%d bytes: %q, not %q", n, got, want)
			}
		}
	}
}

// TestKeyEdges: where the byte 0 is there, and where it is not, written out; beyond what Check lets by, too.
func TestKeyEdges(t *testing.T) {
	x := func(n int) string { return strings.Repeat("x", n) }
	for _, c := range [][2]string{
		{"", "\x00"},
		{"a", "a\x00"},
		{"\x00", "\x00\x00"},
		{"a\x00", "a\x00\x00"},
		{"a\x00b", "a\x00b\x00"},
		{x(70), x(70) + "\x00"},
		{x(71), x(71) + "\x00"},
		{x(70) + "\x00", x(70) + "\x00\x00"},
		{x(71) + "\x00", x(71) + "\x00"},
		{x(72), x(72)},
		{x(72) + "y", x(72)},
		{x(71) + "yz", x(71) + "y"},
		{x(1 << 20), x(72)},
		{strings.Repeat("é", 40), strings.Repeat("é", 36)},
		{"x" + strings.Repeat("é", 40), "x" + strings.Repeat("é", 35) + "\xc3"},
	} {
		if got := bcrypt.Key(c[0]); got != c[1] {
			t.Errorf("%d bytes: %q, not %q", len(c[0]), got, c[1])
		}
	}
}

// TestKnownStrings: strings of bcrypt whose passwords are known, from crypt_blowfish's tests and jBCrypt's.
func TestKnownStrings(t *testing.T) {
	for _, k := range []struct {
		cost            int
		salt, sum, word string
	}{
		{5, "CCCCCCCCCCCCCCCCCCCCC.", "E5YPO9kmyuRGyh0XouQYb4YMJKvyOeW", "U*U"},
		{5, "CCCCCCCCCCCCCCCCCCCCC.", "VGOzA784oUp/Z0DY336zx7pLYAy0lwK", "U*U*"},
		{5, "XXXXXXXXXXXXXXXXXXXXXO", "AcXxm9kjPGEMsLznoKqmqw7tc8WCx4a", "U*U*U"},
		{5, "CCCCCCCCCCCCCCCCCCCCC.", "7uG0VCzI2bS7j6ymqJi9CdcdxiRTWNy", ""},
		{5, "/OK.fbVrR/bpIqNJ5ianF.", "Sa7shbm4.OzKpvFnX1pQLmQW96oUlCq", "\xa3"},
		{5, "abcdefghijklmnopqrstuu", "5s2v8.iXieOjg/.AySBTTZIIVFJeBui", "0123456789abcdefghijklmnopqrstuvwxyzABCDEFGHIJKLMNOPQRSTUVWXYZ0123456789"},
		{6, "DCq7YPn5Rq63x1Lad4cll.", "TV4S6ytwfsfvkgY8jIucDrjc8deX1s.", ""},
		{6, "m0CrhHm10qJ3lXRY.5zDGO", "3rS2KdeeWLuGmsfGlMfOxih58VYVfxe", "a"},
		{6, "If6bvum7DFjUnE9p2uDeDu", "0YHzrHM6tf.iqN8.yx.jNN1ILEf7h0i", "abc"},
		{6, ".rCVZVOThsIa97pEDOxvGu", "RRgzG64bvtJ0938xuqzv18d3ZpQhstC", "abcdefghijklmnopqrstuvwxyz"},
		{6, "fPIsBO8qRqkjj273rfaOI.", "HtSV9jLDpTbZn782DC6/t7qT67P6FfO", "~!@#$%^&*()      ~!@#$%^&*()PNBFRD"},
		{8, "HqWuK6/Ng6sg9gQzbLrgb.", "Tl.ZHfXLhvt/SgVyWhQqgqcZ7ZuUtye", ""},
		{8, "cfcvVd2aQ8CMvoMpP2EBfe", "odLEkkFJ9umNEfPD18.hUF62qqlC/V.", "a"},
		{10, "k1wbIrmNyFAPwPVPSVa/ze", "cw2BCEnBwVS2GbrmgzxFUOqW9dk4TCW", ""},
		{10, "k87L/MF28Q673VKh8/cPi.", "SUl7MU/rWuSiIDDFayrKk/1tBsSQu4u", "a"},
	} {
		salt, err := letters.DecodeString(k.salt)
		if err != nil {
			t.Fatal(k.salt, err)
		}
		if got := letters.EncodeToString([]byte(made(t, k.cost, string(salt), k.word))); got != k.sum {
			t.Errorf("%d %s %q: %s, not %s", k.cost, k.salt, k.word, got, k.sum)
		}
	}
}

// TestKnownSums: sums of another bcrypt, of salts and passwords with bytes 0 and 255, and of costs up to 12.
func TestKnownSums(t *testing.T) {
	zero, full := strings.Repeat("\x00", 16), strings.Repeat("\xff", 16)
	for _, k := range []struct {
		cost            int
		salt, word, sum string
	}{
		{4, zero, "", "cbde9d37b896f4d50b1276c49c4700466d77e9c5710594"},
		{4, full, "", "b8f922c91ab8ef6cb841f6379411f2ae52293d9e900304"},
		{4, zero, "\x00", "cbde9d37b896f4d50b1276c49c4700466d77e9c5710594"},
		{4, zero, strings.Repeat("\x00", 72), "cbde9d37b896f4d50b1276c49c4700466d77e9c5710594"},
		{4, zero, "a", "71deb09bdd5f5369012a78cc6432a1fa69c5ae6ea234bc"},
		{4, zero, "a\x00", "d222eb94e9fc7746fb3a115848e23508914759a857327a"},
		{4, zero, "a\x00a", "71deb09bdd5f5369012a78cc6432a1fa69c5ae6ea234bc"},
		{4, zero, "\x00a", "33670ad16a800025cccd273ae76e1b350d5570e2fede65"},
		{4, full, strings.Repeat("\xff", 72), "bab403d79f353d71d558b07b4b0f2c12ef16d194a095b7"},
		{4, plainSalt, "\xc3\x28\x80", "1d444c0406d9614c74129f6516f348d2e820fe5299c6d9"},
		{4, plainSalt, strings.Repeat("x", 70), "e8d3d035b042979ee7ece16935c9c219dd5c3d053aeceb"},
		{4, plainSalt, strings.Repeat("x", 71), "d038e1443b8795cdba8d13dea4b87ff3b481266245c8a6"},
		{4, plainSalt, strings.Repeat("x", 72), "bea3f112cfacd3715be3d708e0385903bf5fce3aa9a177"},
		{5, plainSalt, "word", "3c3976fac68ee6bb49be1b2e627742f8061fb8d9696460"},
		{6, plainSalt, "word", "954819f64e7b3bb17784f85f25164031c32116a59f765c"},
		{7, plainSalt, "word", "339d7c03ad19b6eeea1b2afae4c78c961ec76bff8b5183"},
		{8, plainSalt, "word", "a4e6ac7314f7810a46faf37753da5191d93bfa91c934ef"},
		{9, plainSalt, "word", "c39d99596bf8bdaaf50a3aae97b9e84002c0d5b8f9182a"},
		{10, plainSalt, "word", "d0cd4cc2cf3cefdf40d898225a0302dd1107880a2385a6"},
		{11, plainSalt, "word", "f0db49d908c88d5c9a9faeedb4abadc22cbd8615c335dd"},
		{12, plainSalt, "word", "12c30995ca4506ea4dd5477f4d038a7abf5b374ce163a8"},
	} {
		if got := hex.EncodeToString([]byte(made(t, k.cost, k.salt, k.word))); got != k.sum {
			t.Errorf("%d %q %q: %s, not %s", k.cost, k.salt, k.word, got, k.sum)
		}
	}
}

// saltOf is a salt by its number.
func saltOf(n int) string {
	b := make([]byte, 16)
	for i := range b {
		b[i] = byte(31*i + 5*n + 200)
	}
	return string(b)
}

// wordOf is a password of so many bytes, some of which are 0.
func wordOf(n int) string {
	b := make([]byte, n)
	for i := range b {
		b[i] = byte(i*i + 7*i + 13*n)
	}
	return string(b)
}

// TestKnownTogether: passwords of all lengths, and each byte as a password, their sums of another bcrypt told by one SHA-256.
func TestKnownTogether(t *testing.T) {
	h := sha256.New()
	for n := range 73 {
		h.Write([]byte(made(t, 4, saltOf(n), wordOf(n))))
	}
	if got := hex.EncodeToString(h.Sum(nil)); got != "9b6af0778fbe16d8200d6c0b4186c4b36b0ffdc11ccb175b69da970d369d207d" {
		t.Error("all lengths:", got)
	}
	h.Reset()
	for b := range 256 {
		h.Write([]byte(made(t, 4, saltOf(b), string([]byte{byte(b)}))))
	}
	if got := hex.EncodeToString(h.Sum(nil)); got != "c8377620110442dc3b3fd122dc64e726984ac2fcad56f8091da63e8624824679" {
		t.Error("all bytes:", got)
	}
}

// TestAgainstSteps: any salts and passwords, at some costs.
func TestAgainstSteps(t *testing.T) {
	r := rand.New(rand.NewSource(2601))
	for i := range 120 {
		cost, salt, word := 4+i%4, random(r, 16), random(r, r.Intn(73))
		if got, want := made(t, cost, salt, word), steps(cost, salt, word); got != want {
			t.Errorf("%d %q %q: %x, not %x", cost, salt, word, got, want)
		}
	}
}

// TestEachCounts: another cost, another byte of the salt or of the password, at whatever place, is another sum.
func TestEachCounts(t *testing.T) {
	r := rand.New(rand.NewSource(2602))
	salt, word := random(r, 16), letterly(r, 72)
	seen := map[string]string{}
	told := func(cost int, salt, word, name string) {
		t.Helper()
		s := made(t, cost, salt, word)
		if other, ok := seen[s]; ok {
			t.Errorf("%s: one sum with %s", name, other)
		}
		seen[s] = name
	}
	changed := func(s string, i int) string {
		b := []byte(s)
		b[i] ^= 1
		return string(b)
	}
	for cost := 4; cost <= 8; cost++ {
		told(cost, salt, word, fmt.Sprint("the cost ", cost))
	}
	for i := range salt {
		told(4, changed(salt, i), word, fmt.Sprint("the salt's byte ", i))
	}
	for i := range word {
		told(4, salt, changed(word, i), fmt.Sprint("the password's byte ", i))
	}
	for n := range 72 {
		told(4, salt, word[:n], fmt.Sprint("the password's beginning of ", n))
	}
}

// TestAgain: what was asked ahead, errors among it, changes no sum.
func TestAgain(t *testing.T) {
	first := made(t, 4, plainSalt, "word")
	made(t, 5, strings.Repeat("\xff", 16), "other")
	for _, cost := range beyond() {
		refused(t, cost, plainSalt, "word", api.ErrParams)
	}
	if s := made(t, 4, plainSalt, "word"); s != first {
		t.Errorf("%x, not %x", s, first)
	}
}

// P26.3

// TestByteBehind71: a password of 71 bytes, and with a byte 0 behind it, are one; with another byte, or of less bytes, they are two.
func TestByteBehind71(t *testing.T) {
	r := rand.New(rand.NewSource(2603))
	for range 20 {
		salt, word := random(r, 16), random(r, 71)
		s := made(t, 4, salt, word)
		if with := made(t, 4, salt, word+"\x00"); with != s {
			t.Errorf("%q %q: %x, with a byte 0 behind it %x", salt, word, s, with)
		}
		if with := made(t, 4, salt, word+"\x01"); with == s {
			t.Errorf("%q %q: a byte 1 behind it is not seen", salt, word)
		}
		refused(t, 4, salt, word+"\x00\x00", api.ErrLong)
	}
	for n := 1; n < 71; n++ {
		word := letterly(r, n)
		if made(t, 4, plainSalt, word) == made(t, 4, plainSalt, word+"\x00") {
			t.Errorf("%q: a byte 0 behind it is not seen", word)
		}
	}
}

// TestSumsHave23: at all lengths that may be, whatever the bytes.
func TestSumsHave23(t *testing.T) {
	r := rand.New(rand.NewSource(2604))
	for n := range 73 {
		if s, e := bcrypt.Sum(4, random(r, 16), random(r, n)); len(s) != 23 || e != api.OK {
			t.Errorf("a password of %d bytes: %d bytes, %d", n, len(s), e)
		}
	}
}

func TestExample(t *testing.T) {
	salt, err := letters.DecodeString("CCCCCCCCCCCCCCCCCCCCC.")
	if err != nil || len(salt) != 16 {
		t.Fatal(salt, err)
	}
	if got := letters.EncodeToString([]byte(made(t, 5, string(salt), "U*U"))); got != "E5YPO9kmyuRGyh0XouQYb4YMJKvyOeW" {
		t.Error(got)
	}
}
