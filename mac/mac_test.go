package mac_test

import (
	"crypto/hmac"
	"crypto/sha256"
	"encoding/hex"
	"math"
	"math/rand"
	"slices"
	"strings"
	"testing"

	"pestle/feed"
	"pestle/mac"
	"pestle/sha"
)

// text is n bytes of all kinds, that go on another way every 251 bytes.
func text(n int) string {
	b := make([]byte, n)
	for i := range b {
		b[i] = byte(i%251 + i/251)
	}
	return string(b)
}

func sum(s string) string {
	b := sha256.Sum256([]byte(s))
	return string(b[:])
}

// known is the tag of a text by another HMAC.
func known(k, s string) string {
	h := hmac.New(sha256.New, []byte(k))
	h.Write([]byte(s))
	return string(h.Sum(nil))
}

// block is a key's block, each byte put together with a mask, as the document tells it.
func block(k string, mask byte) string {
	if len(k) > 64 {
		k = sum(k)
	}
	b := make([]byte, 64)
	copy(b, k)
	for i := range b {
		b[i] ^= mask
	}
	return string(b)
}

// plain is the tag as the document tells it, of sums alone.
func plain(k, s string) string { return sum(block(k, 0x5c) + sum(block(k, 0x36)+s)) }

// chained is what Chain comes to, by another HMAC.
func chained(rounds int, k, came, parts string) (string, string) {
	last := known(k, came+parts)
	all := []byte(last)
	for i := 1; i < rounds; i++ {
		last = known(k, came+last)
		for j := range all {
			all[j] ^= last[j]
		}
	}
	return last, string(all)
}

func digits(s string) string { return hex.EncodeToString([]byte(s)) }

func bytesOf(t *testing.T, s string) string {
	t.Helper()
	b, err := hex.DecodeString(s)
	if err != nil {
		t.Fatal(err)
	}
	return string(b)
}

// keys are of all lengths about the ends of what a block holds, and of what a sum has.
func keys() []string {
	l := []string{"\x00", strings.Repeat("\x00", 64), strings.Repeat("\x00", 65), strings.Repeat("\xff", 64), strings.Repeat("\x36", 64), strings.Repeat("\x5c", 64)}
	for _, n := range []int{0, 1, 8, 31, 32, 33, 62, 63, 64, 65, 66, 127, 128, 129, 200, 4096, 1 << 16} {
		l = append(l, text(n))
	}
	return l
}

// tells tells of a Mac that has not the tag, and the inner sum, of all that came.
func tells(t *testing.T, m *mac.Mac, k, all string) {
	t.Helper()
	if s := m.Tag(); s != known(k, all) {
		t.Errorf("a key of %d bytes: the tag of %d bytes is %x, not %x", len(k), len(all), s, known(k, all))
	}
	if s := sum(block(k, 0x36) + all); m.Sum() != s || m.Hash.Sum() != s {
		t.Errorf("a key of %d bytes: the inner sum of %d bytes is %x, not %x", len(k), len(all), m.Sum(), s)
	}
}

// P6.1

// TestKnown: the examples of RFC 4231, and the document's own.
func TestKnown(t *testing.T) {
	for _, c := range []struct{ key, text, tag string }{
		{strings.Repeat("\x0b", 20), "Hi There", "b0344c61d8db38535ca8afceaf0bf12b881dc200c9833da726e9376c2e32cff7"},
		{"Jefe", "what do ya want for nothing?", "5bdcc146bf60754e6a042426089575c75a003f089d2739839dec58b964ec3843"},
		{strings.Repeat("\xaa", 20), strings.Repeat("\xdd", 50), "773ea91e36800e46854db8ebd09181a72959098b3ef8c122d9635514ced565fe"},
		{bytesOf(t, "0102030405060708090a0b0c0d0e0f10111213141516171819"), strings.Repeat("\xcd", 50), "82558a389a443c0ea4cc819899f2083a85f0faa3e578f8077a2e3ff46729665b"},
		{strings.Repeat("\xaa", 131), "Test Using Larger Than Block-Size Key - Hash Key First", "60e431591ee0b67f0d8a26aacbf5b77f8e0bc6213728c5140546040f0ee37f54"},
		{strings.Repeat("\xaa", 131), "This is a test using a larger than block-size key and a larger than block-size data. The key needs to be hashed before being used by the HMAC algorithm.", "9b09ffa71b942fcb27635fbcd5b0e944bfdc63644f0713938a7f51535c3a35e2"},
		{"", "", "b613679a0814d9ec772f95d778c35fc5ff1697c493715653c6c712144292c5ad"},
	} {
		if s := digits(mac.Of(c.key, c.text)); s != c.tag {
			t.Errorf("%q, %q: %s, not %s", c.key, c.text, s, c.tag)
		}
	}
	if s := digits(mac.Of(strings.Repeat("\x0c", 20), "Test With Truncation")); !strings.HasPrefix(s, "a3b6167473100ee06e0c796c2955552b") {
		t.Error(s)
	}
}

// TestOf: each length of a key and of a text about the ends of blocks.
func TestOf(t *testing.T) {
	for _, k := range keys() {
		for _, n := range []int{0, 1, 31, 32, 55, 56, 63, 64, 65, 119, 120, 128, 1000} {
			s := mac.Of(k, text(n))
			if s != known(k, text(n)) || s != plain(k, text(n)) || len(s) != 32 {
				t.Errorf("a key of %d bytes, %d bytes: %x, not %x", len(k), n, s, known(k, text(n)))
			}
		}
	}
	for n := range 300 {
		if s := mac.Of(text(n), "abc"); s != known(text(n), "abc") {
			t.Errorf("a key of %d bytes: %x, not %x", n, s, known(text(n), "abc"))
		}
		if s := mac.Of("key", text(n)); s != known("key", text(n)) {
			t.Errorf("%d bytes: %x, not %x", n, s, known("key", text(n)))
		}
	}
}

func TestOfNothing(t *testing.T) {
	for _, k := range keys() {
		for _, s := range []string{mac.Of(k), mac.Of(k, ""), mac.Of(k, "", ""), mac.Of(k, []string{}...), mac.New(k).Tag(), mac.New(k).With().Tag(), mac.New(k).With("", "").Tag()} {
			if s != known(k, "") {
				t.Errorf("a key of %d bytes: %x", len(k), s)
			}
		}
	}
}

// TestNew: a Mac by itself each time, to which nothing came but the key.
func TestNew(t *testing.T) {
	for _, k := range keys() {
		m := mac.New(k)
		tells(t, m, k, "")
		if n := mac.New(k); n == m || n.Hash == m.Hash || n.Feed == m.Feed {
			t.Error("no Mac by itself")
		}
		m.With("abc").With(text(100))
		tells(t, m, k, "")
		tells(t, mac.New(k), k, "")
	}
}

// TestWith: the one that is asked stays, at each place within a block, and what comes to the one is not seen in the other.
func TestWith(t *testing.T) {
	for _, k := range []string{"", "key", text(64), text(65)} {
		all := text(150)
		m := mac.New(k)
		for n := range 140 {
			one := m.With(all[n:])
			other := m.With("other", text(70))
			same := m.With()
			if one == m || same == m || same.Hash == m.Hash || same.Feed == m.Feed {
				t.Fatal("no Mac by itself")
			}
			third := one.With("third")
			tells(t, m, k, all[:n])
			tells(t, one, k, all)
			tells(t, other, k, all[:n]+"other"+text(70))
			tells(t, same, k, all[:n])
			tells(t, third, k, all+"third")
			m = m.With(all[n : n+1]) // byte by byte, so that what is held has room behind it
		}
	}
}

// TestWithKeepsApart: what the Hash's own calls do to the one is not seen in those that were made of it, nor in the one that it was made of.
func TestWithKeepsApart(t *testing.T) {
	m := mac.New("key").With("abc")
	made := m.With("d")
	m.Add(text(100))
	tells(t, made, "key", "abcd")
	base := mac.New("key")
	made = base.With("d")
	made.Add(text(100))
	made.Put(text(10))
	tells(t, base, "key", "")
	tells(t, base.With("x"), "key", "x")
}

// TestTagChangesNothing: a tag may be asked for any number of times, and more may come behind it.
func TestTagChangesNothing(t *testing.T) {
	m, came := mac.New("key"), ""
	for n := range 200 {
		if a, b := m.Tag(), m.Tag(); a != b || a != known("key", came) {
			t.Fatalf("%d bytes: %x, then %x", n, a, b)
		}
		part := text(n)[n/2:]
		m, came = m.With(part), came+part
		tells(t, m, "key", came)
	}
}

// TestPartsStay: the parts are as they were, and what lies behind their list's length does not come.
func TestPartsStay(t *testing.T) {
	l := []string{"ab", "c", "behind"}
	last, all := mac.New("key").Chain(2, l[:2]...)
	wantLast, wantAll := chained(2, "key", "", "abc")
	if last != wantLast || all != wantAll {
		t.Errorf("%x, %x", last, all)
	}
	if s := mac.Of("key", l[:2]...); s != known("key", "abc") {
		t.Errorf("%x", s)
	}
	if s := mac.New("key").With(l[:2]...).Tag(); s != known("key", "abc") {
		t.Errorf("%x", s)
	}
	if !slices.Equal(l, []string{"ab", "c", "behind"}) {
		t.Errorf("%q", l)
	}
}

// P6.2

func TestChain(t *testing.T) {
	for _, k := range []string{"", "key", text(32), text(63), text(64), text(65), text(200)} {
		for _, came := range []string{"", "abc", text(31), text(32), text(64), text(100)} {
			m := mac.New(k).With(came)
			for rounds := 1; rounds <= 9; rounds++ {
				for _, parts := range []string{"", "salt", text(33), text(64), text(130)} {
					last, all := m.Chain(rounds, parts)
					wantLast, wantAll := chained(rounds, k, came, parts)
					if last != wantLast || all != wantAll {
						t.Fatalf("a key of %d bytes, %d came, %d rounds, %d bytes: %x, %x, not %x, %x", len(k), len(came), rounds, len(parts), last, all, wantLast, wantAll)
					}
				}
			}
			tells(t, m, k, came)
		}
	}
}

// TestChainOne: of one round both are the tag; of two the last one is the tag of the tag, and all is the two of them.
func TestChainOne(t *testing.T) {
	m := mac.New("key").With("came")
	first := known("key", "cameparts")
	if last, all := m.Chain(1, "parts"); last != first || all != first {
		t.Errorf("%x, %x", last, all)
	}
	second := known("key", "came"+first)
	both := make([]byte, 32)
	for i := range both {
		both[i] = first[i] ^ second[i]
	}
	if last, all := m.Chain(2, "parts"); last != second || all != string(both) {
		t.Errorf("%x, %x", last, all)
	}
}

// TestChainParts: however the parts are parted; of no parts it is the tag of all that came.
func TestChainParts(t *testing.T) {
	m := mac.New("key").With("came")
	for _, parts := range [][]string{nil, {}, {""}, {"salt"}, {"sa", "lt"}, {"", "s", "", "alt"}, {text(64), text(1)}} {
		last, all := m.Chain(3, parts...)
		wantLast, wantAll := chained(3, "key", "came", strings.Join(parts, ""))
		if last != wantLast || all != wantAll {
			t.Errorf("%q: %x, %x", parts, last, all)
		}
	}
	if last, _ := m.Chain(1); last != m.Tag() {
		t.Errorf("%x", last)
	}
}

// TestChainKnown: all tags put together of many rounds, as RFC 7914 and others have them of PBKDF2.
func TestChainKnown(t *testing.T) {
	for _, c := range []struct {
		word, salt string
		rounds     int
		all        string
	}{
		{"passwd", "salt", 1, "55ac046e56e3089fec1691c22544b605f94185216dde0465e68b9d57c20dacbc"},
		{"Password", "NaCl", 80000, "4ddcd8f60b98be21830cee5ef22701f9641a4418d04c0414aeff08876b34ab56"},
		{"password", "salt", 4096, "c5e478d59288c841aa530db6845c4c8d962893a001ce4e11a4963873aa98134a"},
	} {
		if _, all := mac.New(c.word).Chain(c.rounds, c.salt, "\x00\x00\x00\x01"); digits(all) != c.all {
			t.Errorf("%s, %s, %d: %x, not %s", c.word, c.salt, c.rounds, all, c.all)
		}
	}
}

func TestChainBelow(t *testing.T) {
	m := mac.New("key").With("came")
	for _, rounds := range []int{0, -1, -2, math.MinInt, math.MinInt + 1} {
		if last, all := m.Chain(rounds, "parts"); last != "" || all != "" {
			t.Errorf("%d: %x, %x", rounds, last, all)
		}
	}
	tells(t, m, "key", "came")
}

func TestNil(t *testing.T) {
	var m *mac.Mac
	if m.With() != nil || m.With("abc", text(100)) != nil || m.Tag() != "" {
		t.Error("a nil Mac has more than nothing")
	}
	for _, rounds := range []int{math.MinInt, 0, 1, 3, math.MaxInt} {
		if last, all := m.Chain(rounds, "abc"); last != "" || all != "" {
			t.Errorf("%d: %x, %x", rounds, last, all)
		}
	}
}

// TestNobodyMade: the calls of a Mac that no call made end, and none panics (R1); what they answer is promised nowhere.
func TestNobodyMade(t *testing.T) {
	lazy, _ := feed.New(3, true)
	for _, h := range []*sha.Hash{nil, {}, {Feed: &feed.Feed{}}, {Feed: lazy}, sha.New()} {
		taken := mac.New("key")
		taken.Hash = h
		for _, m := range []*mac.Mac{{Hash: h}, taken} {
			m.Tag()
			m.With().Tag()
			m.With("", "abc", text(200)).With(text(64)).Tag()
			m.Chain(-1, "abc")
			m.Chain(3)
			m.Chain(3, "abc", text(100))
		}
	}
}

// P6.3

// TestParts: each place at which a text is cut in two, in one call and over two, and byte by byte.
func TestParts(t *testing.T) {
	for _, k := range []string{"", "key", text(64), text(65)} {
		all := text(140)
		for n := range len(all) + 1 {
			if mac.Of(k, all[:n], all[n:]) != known(k, all) || mac.New(k).With(all[:n]).With("", all[n:], "").Tag() != known(k, all) {
				t.Errorf("a key of %d bytes, cut at %d", len(k), n)
			}
		}
		if mac.Of(k, strings.Split(all, "")...) != known(k, all) {
			t.Errorf("a key of %d bytes, byte by byte", len(k))
		}
	}
}

// TestPartsByChance: parts of all lengths, over any number of calls.
func TestPartsByChance(t *testing.T) {
	r := rand.New(rand.NewSource(6))
	some := func(most int) string {
		b := make([]byte, r.Intn(most))
		r.Read(b)
		return string(b)
	}
	for range 200 {
		k := some(140)
		m, came := mac.New(k), ""
		for range r.Intn(10) {
			var parts []string
			for range r.Intn(4) {
				parts = append(parts, some(150))
			}
			m, came = m.With(parts...), came+strings.Join(parts, "")
		}
		tells(t, m, k, came)
	}
}

// TestKeyWithZeros: bytes 0 behind a key do nothing up to 64 bytes, and make another key of it beyond.
func TestKeyWithZeros(t *testing.T) {
	for n := range 65 {
		k := text(n + 1)[1:] // its first byte is not 0
		want := known(k, "abc")
		for m := range 65 - n {
			if s := mac.Of(k+strings.Repeat("\x00", m), "abc"); s != want {
				t.Errorf("a key of %d bytes and %d bytes 0: %x, not %x", n, m, s, want)
			}
		}
		if mac.Of(k+strings.Repeat("\x00", 65-n), "abc") == want {
			t.Errorf("a key of %d bytes, and bytes 0 up to 65: the same tag", n)
		}
		if n > 0 && mac.Of("\x00"+k[:n-1], "abc") == want {
			t.Errorf("a key of %d bytes, and a byte 0 ahead: the same tag", n)
		}
	}
}

// TestLongKey: the sum of a key of more than 64 bytes has its tags; of one of 64 it has not.
func TestLongKey(t *testing.T) {
	for _, n := range []int{65, 66, 128, 1000} {
		if mac.Of(text(n), "abc") != mac.Of(sum(text(n)), "abc") {
			t.Errorf("a key of %d bytes is not as its sum", n)
		}
	}
	for _, n := range []int{1, 63, 64} {
		if mac.Of(text(n), "abc") == mac.Of(sum(text(n)), "abc") {
			t.Errorf("a key of %d bytes is as its sum", n)
		}
	}
}
