package sextet_test

import (
	"encoding/base64"
	"math/rand"
	"slices"
	"strings"
	"testing"

	"pestle/api"
	"pestle/sextet"
)

const (
	plain = "ABCDEFGHIJKLMNOPQRSTUVWXYZabcdefghijklmnopqrstuvwxyz0123456789+/"
	crypt = "./ABCDEFGHIJKLMNOPQRSTUVWXYZabcdefghijklmnopqrstuvwxyz0123456789"
)

// run is the letters from one byte to another, rising.
func run(from, to int) string {
	var b []byte
	for i := from; i <= to; i++ {
		b = append(b, byte(i))
	}
	return string(b)
}

func reversed(s string) string {
	b := []byte(s)
	slices.Reverse(b)
	return string(b)
}

// alphabets are letters that may be: those of other programs, the ends of the range, and one in no order.
func alphabets() []string {
	return []string{plain, crypt, reversed(plain), run(33, 96), run(63, 126), reversed(run(63, 126)), run(33, 64) + run(95, 126)}
}

func coder(t *testing.T, letters string) *sextet.Coder {
	t.Helper()
	c, err := sextet.New(letters)
	if c == nil || err != api.OK {
		t.Fatalf("New(%q): %v %d", letters, c, err)
	}
	return c
}

func randomText(r *rand.Rand, n int) string {
	b := make([]byte, n)
	r.Read(b)
	return string(b)
}

// lettersOf is a text's letters bit by bit, as the document tells it.
func lettersOf(letters, s string) string {
	var bits []int
	for _, c := range []byte(s) {
		for i := 7; i >= 0; i-- {
			bits = append(bits, int(c)>>i&1)
		}
	}
	for len(bits)%6 != 0 {
		bits = append(bits, 0)
	}
	var b []byte
	for ; len(bits) > 0; bits = bits[6:] {
		place := 0
		for _, bit := range bits[:6] {
			place = 2*place + bit
		}
		b = append(b, letters[place])
	}
	return string(b)
}

// bytesOf is what a text decodes to bit by bit, as the document tells it.
func bytesOf(letters, s string) (string, api.Errno) {
	var bits []int
	for _, c := range []byte(s) {
		place := strings.IndexByte(letters, c)
		if place < 0 {
			return "", api.ErrLetter
		}
		for i := 5; i >= 0; i-- {
			bits = append(bits, place>>i&1)
		}
	}
	var b []byte
	for ; len(bits) >= 8; bits = bits[8:] {
		whole := 0
		for _, bit := range bits[:8] {
			whole = 2*whole + bit
		}
		b = append(b, byte(whole))
	}
	if len(s)%4 == 1 || slices.Contains(bits, 1) {
		return "", api.ErrForm
	}
	return string(b), api.OK
}

// checkText holds a text's letters, how many there are, and the text that they come back to.
func checkText(t *testing.T, c *sextet.Coder, s, want string) {
	t.Helper()
	if got := c.Encode(s); got != want {
		t.Fatalf("Encode(%.20q): %.40q; asked for: %.40q", s, got, want)
	}
	if got := c.Letters(len(s)); got != len(want) {
		t.Fatalf("Letters(%d): %d; asked for: %d", len(s), got, len(want))
	}
	if got, err := c.Decode(want); got != s || err != api.OK {
		t.Fatalf("Decode(%.40q): %.20q %d; asked for: %.20q", want, got, err, s)
	}
}

// checkRead holds what a text decodes to, or its error, and that what is decoded had just these letters.
func checkRead(t *testing.T, c *sextet.Coder, letters, s string) {
	t.Helper()
	want, wrong := bytesOf(letters, s)
	got, err := c.Decode(s)
	if got != want || err != wrong {
		t.Fatalf("Decode(%.40q): %.20q %d; asked for: %.20q %d", s, got, err, want, wrong)
	}
	if err == api.OK && c.Encode(got) != s {
		t.Fatalf("Decode(%.40q): %.20q, whose letters are %.40q", s, got, c.Encode(got))
	}
}

// P15.1

func TestNewOfLettersThatMayBe(t *testing.T) {
	for _, letters := range alphabets() {
		c := coder(t, letters)
		for place := range 64 {
			s := string([]byte{byte(place << 2)})
			if got, want := c.Encode(s), string([]byte{letters[place], letters[0]}); got != want {
				t.Errorf("letters %q: Encode(%q): %q; asked for: %q", letters, s, got, want)
			}
		}
	}
}

func TestNewOfAWrongNumber(t *testing.T) {
	long := run(33, 126)
	for n := range len(long) + 1 {
		c, err := sextet.New(long[:n])
		if is := err == api.OK && c != nil; is != (n == 64) {
			t.Errorf("New of %d letters: %v %d", n, c, err)
		}
		if n != 64 && (c != nil || err != api.ErrSize) {
			t.Errorf("New of %d letters: %v %d; asked for: %d", n, c, err, api.ErrSize)
		}
	}
	for _, letters := range []string{ // the number is told ahead of what the letters are
		strings.Repeat("A", 63), strings.Repeat("A", 65), strings.Repeat("A", 128), strings.Repeat("\x00", 63),
		plain + " ", plain + "A", plain + plain, strings.Repeat("\u00e9", 64),
	} {
		if c, err := sextet.New(letters); c != nil || err != api.ErrSize {
			t.Errorf("New(%q): %v %d; asked for: %d", letters, c, err, api.ErrSize)
		}
	}
}

func TestNewOfAWrongLetter(t *testing.T) {
	for place := range 64 {
		for b := range 256 {
			letters := plain[:place] + string([]byte{byte(b)}) + plain[place+1:]
			var want api.Errno
			switch {
			case b < 33 || b > 126:
				want = api.ErrLetter
			case byte(b) != plain[place] && strings.IndexByte(plain, byte(b)) >= 0:
				want = api.ErrTwice
			}
			if c, err := sextet.New(letters); err != want || (c == nil) != (want != api.OK) {
				t.Fatalf("New with byte %d at %d: %v %d; asked for: %d", b, place, c, err, want)
			}
		}
	}
}

func TestNewTellsTheFirstThatIsWrong(t *testing.T) {
	for _, c := range []struct {
		letters string
		want    api.Errno
	}{
		{"AA" + plain[2:63] + " ", api.ErrTwice},
		{" " + plain[1:63] + "B", api.ErrLetter},
		{plain[:62] + "A\x7f", api.ErrTwice},
		{plain[:62] + "\x7fA", api.ErrLetter},
		{plain[:62] + "\x20\x20", api.ErrLetter}, // a wrong letter that stood ahead is wrong as a letter
		{strings.Repeat(" ", 64), api.ErrLetter},
		{strings.Repeat("A", 64), api.ErrTwice},
		{strings.Repeat("\u00e9", 32), api.ErrLetter},
	} {
		if got, err := sextet.New(c.letters); got != nil || err != c.want {
			t.Errorf("New(%q): %v %d; asked for: %d", c.letters, got, err, c.want)
		}
	}
}

func TestCodersAreApart(t *testing.T) {
	one, two := coder(t, plain), coder(t, crypt)
	if one == two {
		t.Fatal("one object of two")
	}
	for range 2 {
		if a, b := one.Encode("abc"), two.Encode("abc"); a != "YWJj" || b != "WUHh" {
			t.Errorf("coders beside one another: %q %q", a, b)
		}
	}
	if again := coder(t, plain); again == one {
		t.Error("the same object answered twice")
	}
}

// P15.2

func TestEncodeKnownTexts(t *testing.T) {
	c := coder(t, plain)
	for _, x := range []struct{ text, want string }{
		{"", ""}, {"a", "YQ"}, {"f", "Zg"}, {"fo", "Zm8"}, {"foo", "Zm9v"}, {"foob", "Zm9vYg"}, {"fooba", "Zm9vYmE"}, {"foobar", "Zm9vYmFy"},
		{"\x00", "AA"}, {"\x00\x00", "AAA"}, {"\x00\x00\x00", "AAAA"}, {"\xff", "/w"}, {"\xff\xff", "//8"}, {"\xff\xff\xff", "////"},
		{"\x80", "gA"}, {"\x01", "AQ"}, {"\x00\x01", "AAE"}, {"\x00\x00\x01", "AAAB"}, {"\xfb\xf0", "+/A"},
	} {
		checkText(t, c, x.text, x.want)
	}
}

func TestEncodeEachText(t *testing.T) {
	for _, letters := range alphabets() {
		c := coder(t, letters)
		for a := range 256 {
			s := string([]byte{byte(a)})
			checkText(t, c, s, lettersOf(letters, s))
		}
	}
	c := coder(t, plain)
	for a := range 1 << 16 {
		s := string([]byte{byte(a >> 8), byte(a)})
		checkText(t, c, s, base64.RawStdEncoding.EncodeToString([]byte(s)))
	}
}

func TestEncodeLengths(t *testing.T) {
	r := rand.New(rand.NewSource(1502))
	for _, letters := range alphabets() {
		c, known := coder(t, letters), base64.NewEncoding(letters).WithPadding(base64.NoPadding)
		for n := range 300 {
			for _, s := range []string{randomText(r, n), strings.Repeat("\xff", n), strings.Repeat("\x00", n)} {
				want := lettersOf(letters, s)
				if known.EncodeToString([]byte(s)) != want {
					t.Fatalf("two ways of the test's own are unlike at %d bytes", n)
				}
				checkText(t, c, s, want)
			}
		}
	}
}

func TestEncodeParts(t *testing.T) {
	c := coder(t, plain)
	if got := c.Encode(); got != "" {
		t.Errorf("Encode of no part: %q", got)
	}
	if got := c.Encode([]string{}...); got != "" {
		t.Errorf("Encode of an empty list: %q", got)
	}
	if got := c.Encode("", "", ""); got != "" {
		t.Errorf("Encode of empty parts: %q", got)
	}
	r := rand.New(rand.NewSource(1503))
	for n := range 40 { // bits are held over from part to part, wherever the text is cut
		s := randomText(r, n)
		want := lettersOf(plain, s)
		for i := range n + 1 {
			for j := i; j <= n; j++ {
				if got := c.Encode(s[:i], s[i:j], "", s[j:]); got != want {
					t.Fatalf("Encode of parts cut at %d and %d of %d: %q; asked for: %q", i, j, n, got, want)
				}
			}
		}
		bytes := make([]string, n)
		for i := range n {
			bytes[i] = s[i : i+1]
		}
		if got := c.Encode(bytes...); got != want {
			t.Fatalf("Encode of %d parts of a byte each: %q; asked for: %q", n, got, want)
		}
	}
}

func TestEncodeLeavesItsParts(t *testing.T) {
	c := coder(t, plain)
	l := []string{"fo", "ob", "behind", "more"}
	kept := slices.Clone(l)
	if got := c.Encode(l[:2]...); got != "Zm9vYg" {
		t.Errorf("Encode of two of four: %q", got)
	}
	if !slices.Equal(l, kept) {
		t.Errorf("the list was changed: %q", l)
	}
}

func TestEncodeForgetsTheCallAhead(t *testing.T) {
	c := coder(t, plain)
	for _, s := range []string{"a", "ab", "\xff", "\xff\xff"} {
		c.Encode(s)
		c.Decode("YR")
		c.Decode("Y=")
		if got := c.Encode("f"); got != "Zg" {
			t.Errorf("Encode behind %q: %q", s, got)
		}
		if got, err := c.Decode("Zm8"); got != "fo" || err != api.OK {
			t.Errorf("Decode behind %q: %q %d", s, got, err)
		}
	}
}

func TestLetters(t *testing.T) {
	c := coder(t, plain)
	for n := range 2000 {
		if got, want := c.Letters(n), base64.RawStdEncoding.EncodedLen(n); got != want {
			t.Errorf("Letters(%d): %d; asked for: %d", n, got, want)
		}
	}
	const most = 1 << 59
	for _, x := range []struct{ bytes, want int }{
		{0, 0}, {1, 2}, {2, 3}, {3, 4}, {4, 6}, {16, 22}, {23, 31}, {api.MaxLong, 87382}, {1<<31 - 1, 2863311530},
		{most, 768614336404564651}, {most - 1, 768614336404564650}, {most - 2, 768614336404564648}, {most - 3, 768614336404564647},
		{most + 1, 0}, {most + 2, 0}, {1 << 60, 0}, {1 << 61, 0}, {1 << 62, 0}, {1<<63 - 1, 0},
		{-1, 0}, {-2, 0}, {-3, 0}, {-most, 0}, {-1 << 62, 0}, {-1 << 63, 0},
	} {
		if got := c.Letters(x.bytes); got != x.want {
			t.Errorf("Letters(%d): %d; asked for: %d", x.bytes, got, x.want)
		}
	}
}

// P15.3

func TestDecodeWrongTexts(t *testing.T) {
	c := coder(t, plain)
	for _, x := range []struct {
		text string
		want api.Errno
	}{
		{"Y", api.ErrForm}, {"A", api.ErrForm}, {"Zm9vY", api.ErrForm}, {"AAAAA", api.ErrForm}, {"AAAAAAAAA", api.ErrForm},
		{"YR", api.ErrForm}, {"YS", api.ErrForm}, {"YU", api.ErrForm}, {"YY", api.ErrForm}, {"Yf", api.ErrForm}, {"Y/", api.ErrForm},
		{"Zm9", api.ErrForm}, {"Zm+", api.ErrForm}, {"Zm/", api.ErrForm}, {"AAB", api.ErrForm}, {"AAC", api.ErrForm}, {"AAAAAB", api.ErrForm},
		{"Y=", api.ErrLetter}, {"YQ==", api.ErrLetter}, {"YQ=", api.ErrLetter}, {"=", api.ErrLetter}, {"Zm8=", api.ErrLetter}, {"====", api.ErrLetter},
		{" ", api.ErrLetter}, {"Zm9v ", api.ErrLetter}, {" Zm9v", api.ErrLetter}, {"Zm9v\n", api.ErrLetter}, {"Zm\r\n9v", api.ErrLetter},
		{"Zm-v", api.ErrLetter}, {"Zm_v", api.ErrLetter}, {"\x00", api.ErrLetter}, {"Zm9\xff", api.ErrLetter}, {"Zm9\u00e9", api.ErrLetter},
		{"YR=", api.ErrLetter}, {"YR.", api.ErrLetter}, {"Y.R", api.ErrLetter}, {"Zm9vY.", api.ErrLetter}, {"AAAA.", api.ErrLetter}, // ahead of the form, wherever it stands
	} {
		if got, err := c.Decode(x.text); got != "" || err != x.want {
			t.Errorf("Decode(%q): %q %d; asked for: %d", x.text, got, err, x.want)
		}
		checkRead(t, c, plain, x.text)
	}
}

func TestDecodeEachByteInEachPlace(t *testing.T) {
	for _, letters := range alphabets() {
		c := coder(t, letters)
		for n := 1; n <= 9; n++ {
			for place := range n {
				for b := range 256 {
					s := []byte(strings.Repeat(letters[:1], n))
					s[place] = byte(b)
					checkRead(t, c, letters, string(s))
				}
			}
		}
	}
}

func TestDecodeEachShortText(t *testing.T) {
	for _, letters := range []string{plain, crypt} {
		c := coder(t, letters)
		count := map[api.Errno]int{}
		for a := range 64 {
			for b := range 64 {
				two := string([]byte{letters[a], letters[b]})
				checkRead(t, c, letters, two)
				_, err := c.Decode(two)
				count[err]++
				for d := range 64 {
					three := two + letters[d:d+1]
					checkRead(t, c, letters, three)
					_, err := c.Decode(three)
					count[err]++
				}
			}
		}
		// of two letters as many are right as there are bytes, of three as pairs of bytes
		if right := 1<<8 + 1<<16; count[api.OK] != right || count[api.ErrForm] != 1<<12+1<<18-right || len(count) != 2 {
			t.Errorf("letters %q: %v", letters, count)
		}
	}
}

func TestDecodeRandomTexts(t *testing.T) {
	r := rand.New(rand.NewSource(1504))
	for _, letters := range alphabets() {
		c := coder(t, letters)
		for n := range 200 {
			for range 20 {
				s := make([]byte, n)
				for i := range s {
					s[i] = letters[r.Intn(64)]
				}
				checkRead(t, c, letters, string(s))
				if n > 0 {
					s[r.Intn(n)] = byte(r.Intn(256))
				}
				checkRead(t, c, letters, string(s))
			}
		}
	}
}

func TestDecodeReadsItsTextAlone(t *testing.T) {
	c := coder(t, plain)
	whole := "Zm9vYmFy" + "=behind"
	if got, err := c.Decode(whole[:4]); got != "foo" || err != api.OK {
		t.Errorf("Decode of the first four letters: %q %d", got, err)
	}
	if got, err := c.Decode(whole[:6]); got != "" || err != api.ErrForm {
		t.Errorf("Decode of the first six letters: %q %d", got, err)
	}
}

// of no coder

func TestNil(t *testing.T) {
	var c *sextet.Coder
	for _, s := range []string{"", "Zm9v", "YR", "Y=", "Y"} {
		if got, err := c.Decode(s); got != "" || err != api.ErrNone {
			t.Errorf("nil: Decode(%q): %q %d", s, got, err)
		}
		if got := c.Encode(s); got != "" {
			t.Errorf("nil: Encode(%q): %q", s, got)
		}
	}
	if got := c.Encode(); got != "" {
		t.Errorf("nil: Encode(): %q", got)
	}
	for _, n := range []int{0, 1, 3, 1 << 59, -1, 1<<63 - 1, -1 << 63} {
		if got := c.Letters(n); got != 0 {
			t.Errorf("nil: Letters(%d): %d", n, got)
		}
	}
}

func TestNobodyMadeIt(t *testing.T) {
	c := new(sextet.Coder) // what it answers isn't promised, but that it ends
	for _, s := range []string{"", "\x00", "abc", "Zm9v", "\xff\xff"} {
		c.Encode(s)
		c.Decode(s)
		c.Letters(len(s))
	}
}

// P15.4

func TestThereAndBack(t *testing.T) {
	r := rand.New(rand.NewSource(1505))
	for _, letters := range alphabets() {
		c := coder(t, letters)
		seen := map[string]string{}
		for n := range 400 {
			s := randomText(r, n)
			e := c.Encode(s[:n/2], s[n/2:])
			if back, err := c.Decode(e); back != s || err != api.OK {
				t.Fatalf("%d bytes come back as %d, error %d", n, len(back), err)
			}
			if other, ok := seen[e]; ok && other != s {
				t.Fatalf("one text of letters of two: %q and %q", s, other)
			}
			seen[e] = s
		}
	}
}

func TestNoSecondTextOfTheSameBytes(t *testing.T) {
	c := coder(t, plain)
	r := rand.New(rand.NewSource(1506))
	for n := 1; n <= 24; n++ {
		s := randomText(r, n)
		e := c.Encode(s)
		for place := range len(e) {
			for _, l := range plain {
				other := e[:place] + string(l) + e[place+1:]
				if got, err := c.Decode(other); err == api.OK && got == s && other != e {
					t.Fatalf("%q and %q are both %q", e, other, s)
				}
			}
		}
		for _, other := range []string{e + "A", e + "AA", e + "AAA", e[:len(e)-1], "A" + e} {
			if got, err := c.Decode(other); err == api.OK && got == s {
				t.Fatalf("%q and %q are both %q", e, other, s)
			}
		}
	}
}

func TestGreatTexts(t *testing.T) {
	c := coder(t, plain)
	r := rand.New(rand.NewSource(1507))
	for _, n := range []int{1 << 16, 1<<20 + 1, 1<<20 + 2} {
		s := randomText(r, n)
		checkText(t, c, s, base64.RawStdEncoding.EncodeToString([]byte(s)))
	}
}
