package plain64_test

import (
	"encoding/base64"
	"math/rand"
	"strings"
	"testing"

	"pestle/api"
	"pestle/plain64"
	"pestle/sextet"
)

const plain = "ABCDEFGHIJKLMNOPQRSTUVWXYZabcdefghijklmnopqrstuvwxyz0123456789+/"

func code(t *testing.T, least, most int) *plain64.Code {
	t.Helper()
	c, err := plain64.New(least, most)
	if c == nil || err != api.OK {
		t.Fatalf("New(%d, %d): %v %d", least, most, c, err)
	}
	return c
}

func randomText(r *rand.Rand, n int) string {
	b := make([]byte, n)
	r.Read(b)
	return string(b)
}

// known is a text's letters by the library.
func known(s string) string { return base64.RawStdEncoding.EncodeToString([]byte(s)) }

// readOf is what Read is asked for: by the library, which takes what has bits behind the end or ends of lines, unless it is held against its own letters.
func readOf(least, most int, s string) (string, api.Errno) {
	if len(s) > base64.RawStdEncoding.EncodedLen(most) {
		return "", api.ErrSize
	}
	if strings.ContainsFunc(s, func(r rune) bool { return !strings.ContainsRune(plain, r) }) {
		return "", api.ErrLetter
	}
	b, err := base64.RawStdEncoding.DecodeString(s)
	if err != nil || known(string(b)) != s {
		return "", api.ErrForm
	}
	if len(b) < least {
		return "", api.ErrSize
	}
	return string(b), api.OK
}

// checkWrite holds a text's letters, or its error, against its length and the library.
func checkWrite(t *testing.T, c *plain64.Code, least, most int, s string) {
	t.Helper()
	want, wrong := known(s), api.OK
	if len(s) < least || len(s) > most {
		want, wrong = "", api.ErrSize
	}
	if got, err := c.Write(s); got != want || err != wrong {
		t.Fatalf("New(%d, %d): Write of %d bytes %.20q: %.40q %d; asked for: %.40q %d", least, most, len(s), s, got, err, want, wrong)
	}
}

// checkRead holds what a text is read as, or its error, and that what is read is written just so.
func checkRead(t *testing.T, c *plain64.Code, least, most int, s string) {
	t.Helper()
	want, wrong := readOf(least, most, s)
	got, err := c.Read(s)
	if got != want || err != wrong {
		t.Fatalf("New(%d, %d): Read of %d letters %.40q: %.20q %d; asked for: %.20q %d", least, most, len(s), s, got, err, want, wrong)
	}
	if err != api.OK {
		return
	}
	if back, err := c.Write(got); back != s || err != api.OK {
		t.Fatalf("New(%d, %d): %.40q is read, but written %.40q %d", least, most, s, back, err)
	}
}

// P16.1

func TestNew(t *testing.T) {
	const least, most = -1 << 63, 1<<63 - 1
	for _, x := range []struct {
		least, most int
		want        api.Errno
	}{
		{0, 0, api.OK}, {0, 1, api.OK}, {1, 1, api.OK}, {1, 3, api.OK}, {8, 64, api.OK}, {4, 1024, api.OK},
		{0, api.MaxLong, api.OK}, {api.MaxLong, api.MaxLong, api.OK}, {api.MaxLong - 1, api.MaxLong, api.OK}, {api.MaxLong - 1, api.MaxLong - 1, api.OK},
		{-1, 0, api.ErrArg}, {-1, 3, api.ErrArg}, {-1, -1, api.ErrArg}, {0, -1, api.ErrArg}, {-2, -1, api.ErrArg}, {-1, -2, api.ErrArg},
		{1, 0, api.ErrArg}, {3, 1, api.ErrArg}, {3, 2, api.ErrArg}, {api.MaxLong, api.MaxLong - 1, api.ErrArg}, {api.MaxLong, 0, api.ErrArg},
		{0, api.MaxLong + 1, api.ErrArg}, {api.MaxLong, api.MaxLong + 1, api.ErrArg}, {api.MaxLong + 1, api.MaxLong + 1, api.ErrArg},
		{api.MaxLong + 1, api.MaxLong, api.ErrArg}, {-1, api.MaxLong + 1, api.ErrArg}, {api.MaxLong + 2, api.MaxLong + 1, api.ErrArg},
		{least, most, api.ErrArg}, {most, least, api.ErrArg}, {least, least, api.ErrArg}, {most, most, api.ErrArg}, {0, most, api.ErrArg}, {0, least, api.ErrArg},
		{least, 0, api.ErrArg}, {most, 0, api.ErrArg}, {0, 1 << 32, api.ErrArg}, {1 << 32, 1 << 32, api.ErrArg}, {0, 1<<32 + 3, api.ErrArg},
	} {
		if c, err := plain64.New(x.least, x.most); err != x.want || (c == nil) != (x.want != api.OK) {
			t.Errorf("New(%d, %d): %v %d; asked for: %d", x.least, x.most, c, err, x.want)
		}
	}
}

func TestNewOfSmallLengths(t *testing.T) {
	for least := -3; least < 12; least++ {
		for most := -3; most < 12; most++ {
			is := least >= 0 && least <= most
			c, err := plain64.New(least, most)
			if is != (c != nil && err == api.OK) || !is && (c != nil || err != api.ErrArg) {
				t.Errorf("New(%d, %d): %v %d", least, most, c, err)
			}
		}
	}
}

func TestCodesAreApart(t *testing.T) {
	one, two, again := code(t, 0, 2), code(t, 3, 5), code(t, 0, 2)
	if one == again || one == two {
		t.Fatal("one object of two")
	}
	for range 2 {
		if s, err := one.Write("ab"); s != "YWI" || err != api.OK {
			t.Errorf("of 0 to 2: %q %d", s, err)
		}
		if s, err := two.Write("ab"); s != "" || err != api.ErrSize {
			t.Errorf("of 3 to 5: %q %d", s, err)
		}
		if s, err := two.Read("YWJj"); s != "abc" || err != api.OK {
			t.Errorf("of 3 to 5: %q %d", s, err)
		}
		if s, err := one.Read("YWJj"); s != "" || err != api.ErrSize {
			t.Errorf("of 0 to 2: %q %d", s, err)
		}
	}
}

// the letters, and the Coder that a Code has

func TestLettersInTheirOrder(t *testing.T) {
	c := code(t, 0, 1)
	for place := range 64 {
		s := string([]byte{byte(place << 2)})
		want := plain[place:place+1] + "A"
		if got, err := c.Write(s); got != want || err != api.OK {
			t.Errorf("Write(%q): %q %d; asked for: %q", s, got, err, want)
		}
		if got, err := c.Read(want); got != s || err != api.OK {
			t.Errorf("Read(%q): %q %d; asked for: %q", want, got, err, s)
		}
	}
}

func TestCoderIsTheLetters(t *testing.T) {
	own, err := sextet.New(plain)
	if err != api.OK {
		t.Fatal(err)
	}
	c := code(t, 2, 3) // the Coder's own calls know no bounds
	var coder *sextet.Coder = c.Coder
	if coder == nil {
		t.Fatal("no Coder")
	}
	r := rand.New(rand.NewSource(1601))
	for n := range 50 {
		s := randomText(r, n)
		e := own.Encode(s)
		if got := c.Encode(s[:n/3], s[n/3:]); got != e || coder.Encode(s) != e {
			t.Fatalf("Encode(%q): %q; asked for: %q", s, got, e)
		}
		if got, err := c.Decode(e); got != s || err != api.OK {
			t.Fatalf("Decode(%q): %q %d; asked for: %q", e, got, err, s)
		}
		if got := c.Letters(n); got != len(e) {
			t.Fatalf("Letters(%d): %d; asked for: %d", n, got, len(e))
		}
	}
	for _, s := range []string{"Y", "YR", "Y=", "Y.", "Zm-_"} {
		_, want := own.Decode(s)
		if got, err := c.Decode(s); got != "" || err != want {
			t.Errorf("Decode(%q): %q %d; asked for: %d", s, got, err, want)
		}
	}
	if got := c.Letters(-1); got != 0 {
		t.Errorf("Letters(-1): %d", got)
	}
}

// P16.2

func TestWriteKnownTexts(t *testing.T) {
	c := code(t, 0, 6)
	for _, x := range []struct{ text, want string }{
		{"", ""}, {"f", "Zg"}, {"fo", "Zm8"}, {"foo", "Zm9v"}, {"foob", "Zm9vYg"}, {"fooba", "Zm9vYmE"}, {"foobar", "Zm9vYmFy"},
		{"\x00", "AA"}, {"\x00\x00", "AAA"}, {"\xff", "/w"}, {"\xff\xff\xff", "////"}, {"\xfb\xf0", "+/A"}, {"\xfb\xef\xbe", "++++"},
		{"\u00e9", "w6k"}, {"a\nb", "YQpi"},
	} {
		if got, err := c.Write(x.text); got != x.want || err != api.OK {
			t.Errorf("Write(%q): %q %d; asked for: %q", x.text, got, err, x.want)
		}
		if got, err := c.Read(x.want); got != x.text || err != api.OK {
			t.Errorf("Read(%q): %q %d; asked for: %q", x.want, got, err, x.text)
		}
	}
}

func TestWriteOfAllLengths(t *testing.T) {
	r := rand.New(rand.NewSource(1602))
	for least := range 14 {
		for most := least; most < 14; most++ {
			c := code(t, least, most)
			for n := range 20 {
				for _, s := range []string{randomText(r, n), strings.Repeat("\x00", n), strings.Repeat("\xff", n)} {
					checkWrite(t, c, least, most, s)
					checkRead(t, c, least, most, known(s))
				}
			}
		}
	}
}

func TestLengthsAtTheirEdges(t *testing.T) {
	r := rand.New(rand.NewSource(1603))
	for _, x := range []struct{ least, most int }{
		{8, 64}, {4, 1024}, {16, 16}, {0, 0}, {0, 4096}, {1000, 1001}, {0, api.MaxLong}, {api.MaxLong - 1, api.MaxLong - 1}, {api.MaxLong, api.MaxLong},
	} {
		c := code(t, x.least, x.most)
		for _, edge := range []int{0, x.least, x.most} {
			for n := max(0, edge-4); n <= edge+4; n++ {
				s := randomText(r, n)
				checkWrite(t, c, x.least, x.most, s)
				checkRead(t, c, x.least, x.most, known(s))
				checkRead(t, c, x.least, x.most, known(s)+"A")
				checkRead(t, c, x.least, x.most, known(s)+"=")
			}
		}
	}
}

func TestReadWrongTexts(t *testing.T) {
	for _, x := range []struct {
		least, most int
		text        string
		want        api.Errno
	}{
		{1, 3, "YWJ", api.ErrForm}, {1, 3, "Y", api.ErrForm}, {1, 3, "YR", api.ErrForm}, {0, 9, "YWJjZ", api.ErrForm},
		{1, 3, "Y=", api.ErrLetter}, {1, 3, "YQ==", api.ErrLetter}, {1, 3, "YWI=", api.ErrLetter}, {1, 3, " ", api.ErrLetter}, {1, 3, "YWI\n", api.ErrLetter},
		{1, 3, "Y-_Q", api.ErrLetter}, {1, 3, "YW.", api.ErrLetter}, {1, 3, "\x00", api.ErrLetter}, {1, 3, "\u00e9", api.ErrLetter}, {1, 3, "\xff", api.ErrLetter},
		{1, 3, "", api.ErrSize}, {2, 3, "YQ", api.ErrSize}, {3, 3, "YWI", api.ErrSize}, {4, 9, "AAAA", api.ErrSize}, {3, 3, "", api.ErrSize},
		{1, 3, "YWJjZA", api.ErrSize}, {1, 3, "YWJjZ", api.ErrSize}, {1, 2, "YWJj", api.ErrSize}, {0, 0, "YQ", api.ErrSize}, {0, 0, "A", api.ErrSize},
		// too many letters are told ahead of what they are
		{1, 3, "YWJj=", api.ErrSize}, {1, 3, "=====", api.ErrSize}, {1, 3, "YWJjZB", api.ErrSize}, {1, 2, "YWI=", api.ErrSize}, {0, 0, "=", api.ErrSize},
		{1, 1, "YQ==", api.ErrSize}, {1, 1, "YQ\n", api.ErrSize}, {1, 1, "\xff\xff\xff", api.ErrSize},
		// what they are is told ahead of too few bytes
		{2, 3, "Y", api.ErrForm}, {2, 3, "YR", api.ErrForm}, {3, 3, "YWJ", api.ErrForm}, {9, 9, "Y", api.ErrForm}, {9, 9, "AB", api.ErrForm},
		{2, 3, "Y=", api.ErrLetter}, {2, 3, "=", api.ErrLetter}, {9, 9, "\n", api.ErrLetter}, {9, 9, "YQ==", api.ErrLetter},
		// a wrong letter is told ahead of the form
		{1, 3, "YR=", api.ErrLetter}, {1, 9, "YWJj=", api.ErrLetter}, {1, 9, "Y=R", api.ErrLetter},
	} {
		c := code(t, x.least, x.most)
		if got, err := c.Read(x.text); got != "" || err != x.want {
			t.Errorf("New(%d, %d): Read(%q): %q %d; asked for: %d", x.least, x.most, x.text, got, err, x.want)
		}
		checkRead(t, c, x.least, x.most, x.text)
	}
}

func TestReadEachByteInEachPlace(t *testing.T) {
	for least := range 6 {
		for most := least; most < 6; most++ {
			c := code(t, least, most)
			for n := 1; n < 10; n++ {
				for place := range n {
					for b := range 256 {
						s := []byte(strings.Repeat("A", n))
						s[place] = byte(b)
						checkRead(t, c, least, most, string(s))
					}
				}
			}
		}
	}
}

func TestReadRandomTexts(t *testing.T) {
	r := rand.New(rand.NewSource(1604))
	for range 20000 {
		least := r.Intn(20)
		most := least + r.Intn(20)
		c := code(t, least, most)
		s := make([]byte, r.Intn(60))
		for i := range s {
			s[i] = plain[r.Intn(64)]
		}
		checkRead(t, c, least, most, string(s))
		if len(s) > 0 {
			s[r.Intn(len(s))] = byte(r.Intn(256))
			checkRead(t, c, least, most, string(s))
		}
	}
}

func TestCallsForgetTheOnesAhead(t *testing.T) {
	c := code(t, 1, 3)
	for _, s := range []string{"", "a", "abcd", "\xff\xff", "YWJ", "Y=", "YWJjZA"} {
		c.Write(s)
		c.Read(s)
		if got, err := c.Write("ab"); got != "YWI" || err != api.OK {
			t.Errorf("Write behind %q: %q %d", s, got, err)
		}
		if got, err := c.Read("YWI"); got != "ab" || err != api.OK {
			t.Errorf("Read behind %q: %q %d", s, got, err)
		}
		if a, b := c.Bounds(); a != 2 || b != 4 {
			t.Errorf("Bounds behind %q: %d %d", s, a, b)
		}
	}
}

func TestReadReadsItsTextAlone(t *testing.T) {
	c := code(t, 1, 3)
	whole := "Zm9v=behind"
	if got, err := c.Read(whole[:4]); got != "foo" || err != api.OK {
		t.Errorf("Read of the first four letters: %q %d", got, err)
	}
	if got, err := c.Read(whole[:3]); got != "" || err != api.ErrForm {
		t.Errorf("Read of the first three letters: %q %d", got, err)
	}
}

func TestGreatTextsAreRefused(t *testing.T) {
	c := code(t, 0, api.MaxLong)
	for _, n := range []int{api.MaxLong + 1, 1 << 20, 1 << 24} {
		s := strings.Repeat("A", n)
		if got, err := c.Write(s); got != "" || err != api.ErrSize {
			t.Errorf("Write of %d bytes: %d letters, %d", n, len(got), err)
		}
	}
	for _, n := range []int{87383, 87384, 1 << 20, 1 << 24} {
		for _, l := range []string{"A", "="} {
			if got, err := c.Read(strings.Repeat(l, n)); got != "" || err != api.ErrSize {
				t.Errorf("Read of %d letters: %d bytes, %d", n, len(got), err)
			}
		}
	}
}

// P16.3

func TestBounds(t *testing.T) {
	for _, x := range []struct{ least, most, low, high int }{
		{0, 0, 0, 0}, {0, 1, 0, 2}, {1, 1, 2, 2}, {1, 3, 2, 4}, {2, 3, 3, 4}, {3, 4, 4, 6}, {8, 64, 11, 86}, {4, 1024, 6, 1366}, {16, 16, 22, 22},
		{0, api.MaxLong, 0, 87382}, {api.MaxLong, api.MaxLong, 87382, 87382}, {api.MaxLong - 1, api.MaxLong, 87380, 87382}, {api.MaxLong - 2, api.MaxLong - 2, 87379, 87379},
	} {
		if low, high := code(t, x.least, x.most).Bounds(); low != x.low || high != x.high {
			t.Errorf("New(%d, %d): Bounds: %d %d; asked for: %d %d", x.least, x.most, low, high, x.low, x.high)
		}
	}
	for n := range 2000 {
		most := 3*n + 1
		low, high := code(t, n, most).Bounds()
		if low != base64.RawStdEncoding.EncodedLen(n) || high != base64.RawStdEncoding.EncodedLen(most) {
			t.Errorf("New(%d, %d): Bounds: %d %d", n, most, low, high)
		}
	}
}

// of no code

func TestNil(t *testing.T) {
	var c *plain64.Code
	for _, s := range []string{"", "Zm9v", "YR", "Y=", "Y", strings.Repeat("A", 100000)} {
		if got, err := c.Write(s); got != "" || err != api.ErrNone {
			t.Errorf("nil: Write(%.10q): %q %d", s, got, err)
		}
		if got, err := c.Read(s); got != "" || err != api.ErrNone {
			t.Errorf("nil: Read(%.10q): %q %d", s, got, err)
		}
	}
	if low, high := c.Bounds(); low != 0 || high != 0 {
		t.Errorf("nil: Bounds: %d %d", low, high)
	}
}

func TestNobodyMadeIt(t *testing.T) {
	bare := code(t, 1, 3)
	bare.Coder = nil
	for _, c := range []*plain64.Code{new(plain64.Code), {Coder: new(sextet.Coder)}, bare} { // what they answer isn't promised, but that it ends
		for _, s := range []string{"", "\x00", "abc", "Zm9v", "\xff\xff"} {
			c.Write(s)
			c.Read(s)
			c.Bounds()
		}
	}
}

// P16.4

func TestThereAndBack(t *testing.T) {
	r := rand.New(rand.NewSource(1605))
	c := code(t, 8, 300)
	seen := map[string]string{}
	for n := range 320 {
		s := randomText(r, n)
		e, err := c.Write(s)
		if may := n >= 8 && n <= 300; may != (err == api.OK) {
			t.Fatalf("Write of %d bytes: %d", n, err)
		}
		if err != api.OK {
			if got, wrong := c.Read(known(s)); got != "" || wrong != api.ErrSize {
				t.Fatalf("what may not be written is read: %d bytes, %q %d", n, got, wrong)
			}
			continue
		}
		if back, err := c.Read(e); back != s || err != api.OK {
			t.Fatalf("%d bytes come back as %d, error %d", n, len(back), err)
		}
		if other, ok := seen[e]; ok && other != s {
			t.Fatalf("one text of letters of two: %q and %q", s, other)
		}
		seen[e] = s
	}
}

func TestJustWhatMayBeWrittenIsRead(t *testing.T) {
	c := code(t, 1, 2)
	right := 0
	var try func(s string)
	try = func(s string) {
		text, err := c.Read(s)
		if err == api.OK {
			right++
			if back, wrong := c.Write(text); back != s || wrong != api.OK {
				t.Fatalf("%q is read as %q, which is written %q %d", s, text, back, wrong)
			}
		}
		if len(s) < 3 {
			for i := range plain {
				try(s + plain[i:i+1])
			}
		}
	}
	try("")
	if right != 1<<8+1<<16 { // as many as there are texts of one byte, and of two
		t.Errorf("%d texts are read", right)
	}
}

func TestNoSecondTextOfTheSameBytes(t *testing.T) {
	c := code(t, 0, 30)
	r := rand.New(rand.NewSource(1606))
	for n := 1; n <= 24; n++ {
		s := randomText(r, n)
		e, _ := c.Write(s)
		for place := range len(e) {
			for _, l := range plain {
				other := e[:place] + string(l) + e[place+1:]
				if got, err := c.Read(other); err == api.OK && got == s && other != e {
					t.Fatalf("%q and %q are both %q", e, other, s)
				}
			}
		}
		for _, other := range []string{e + "A", e + "AA", e + "AAA", e + "=", e + "==", e + "\n", " " + e, e[:len(e)-1], "A" + e} {
			if got, err := c.Read(other); err == api.OK && got == s {
				t.Fatalf("%q and %q are both %q", e, other, s)
			}
		}
	}
}
