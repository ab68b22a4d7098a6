package crypt64_test

import (
	"encoding/base64"
	"encoding/hex"
	"math/rand"
	"strings"
	"testing"

	"pestle/api"
	"pestle/crypt64"
	"pestle/sextet"
)

const (
	crypt       = "./ABCDEFGHIJKLMNOPQRSTUVWXYZabcdefghijklmnopqrstuvwxyz0123456789"
	saltLetters = 22
	allLetters  = 53
)

// library is the library's coder of the same letters.
func library() *base64.Encoding { return base64.NewEncoding(crypt).WithPadding(base64.NoPadding) }

func code(t *testing.T) *crypt64.Code {
	t.Helper()
	c := crypt64.New()
	if c == nil || c.Coder == nil {
		t.Fatalf("New: %v", c)
	}
	return c
}

func randomText(r *rand.Rand, n int) string {
	b := make([]byte, n)
	r.Read(b)
	return string(b)
}

func randomLetters(r *rand.Rand, n int) string {
	b := make([]byte, n)
	for i := range b {
		b[i] = crypt[r.Intn(64)]
	}
	return string(b)
}

func unhex(t *testing.T, s string) string {
	t.Helper()
	b, err := hex.DecodeString(s)
	if err != nil {
		t.Fatal(err)
	}
	return string(b)
}

// known is a salt's and a sum's letters by the library.
func known(salt, sum string) string {
	return library().EncodeToString([]byte(salt)) + library().EncodeToString([]byte(sum))
}

// bytesOf is what letters are decoded as: by the library, which takes what has bits behind the end or ends of lines, unless it is held against its own letters.
func bytesOf(s string) (string, api.Errno) {
	for i := range len(s) {
		if strings.IndexByte(crypt, s[i]) < 0 {
			return "", api.ErrLetter
		}
	}
	b, err := library().DecodeString(s)
	if err != nil || library().EncodeToString(b) != s {
		return "", api.ErrForm
	}
	return string(b), api.OK
}

// partOf is what Part is asked for.
func partOf(s string) (string, string, api.Errno) {
	if len(s) != allLetters {
		return "", "", api.ErrSize
	}
	salt, err := bytesOf(s[:saltLetters])
	if err != api.OK {
		return "", "", err
	}
	sum, err := bytesOf(s[saltLetters:])
	if err != api.OK {
		return "", "", err
	}
	return salt, sum, api.OK
}

// checkJoin holds the letters of a salt and a sum, or their error, against their lengths and the library, and that they come back.
func checkJoin(t *testing.T, c *crypt64.Code, salt, sum string) {
	t.Helper()
	want, wrong := known(salt, sum), api.OK
	if len(salt) != 16 || len(sum) != 23 {
		want, wrong = "", api.ErrSize
	}
	got, err := c.Join(salt, sum)
	if got != want || err != wrong {
		t.Fatalf("Join of %d and %d bytes: %q %d; asked for: %q %d", len(salt), len(sum), got, err, want, wrong)
	}
	if err != api.OK {
		return
	}
	if a, b, err := c.Part(got); a != salt || b != sum || err != api.OK {
		t.Fatalf("%q and %q are joined, but parted as %q %q %d", salt, sum, a, b, err)
	}
}

// checkPart holds what a text is parted as, or its error, and that what is parted is joined just so.
func checkPart(t *testing.T, c *crypt64.Code, s string) api.Errno {
	t.Helper()
	salt, sum, wrong := partOf(s)
	a, b, err := c.Part(s)
	if a != salt || b != sum || err != wrong {
		t.Fatalf("Part(%.60q) of %d letters: %q %q %d; asked for: %q %q %d", s, len(s), a, b, err, salt, sum, wrong)
	}
	if err != api.OK {
		return err
	}
	if back, err := c.Join(a, b); back != s || err != api.OK {
		t.Fatalf("%q is parted, but joined %q %d", s, back, err)
	}
	return err
}

// P17.1

func TestSizes(t *testing.T) {
	if crypt64.SaltSize != 16 || crypt64.SumSize != 23 {
		t.Errorf("SaltSize %d, SumSize %d", crypt64.SaltSize, crypt64.SumSize)
	}
}

func TestNewIsNew(t *testing.T) {
	one, two := code(t), code(t)
	if one == two {
		t.Fatal("one object of two")
	}
	want := strings.Repeat(".", allLetters)
	one.Coder = nil
	if s, err := two.Join(strings.Repeat("\x00", 16), strings.Repeat("\x00", 23)); s != want || err != api.OK {
		t.Errorf("one changed another: %q %d", s, err)
	}
	if s, err := code(t).Join(strings.Repeat("\x00", 16), strings.Repeat("\x00", 23)); s != want || err != api.OK {
		t.Errorf("one changed those made behind it: %q %d", s, err)
	}
}

func TestCoderIsTheLetters(t *testing.T) {
	own, err := sextet.New(crypt)
	if err != api.OK {
		t.Fatal(err)
	}
	c := code(t)
	var coder *sextet.Coder = c.Coder
	for place := range 64 {
		s, want := string([]byte{byte(place << 2)}), crypt[place:place+1]+"."
		if got := c.Encode(s); got != want {
			t.Errorf("Encode(%q): %q; asked for: %q", s, got, want)
		}
		if got, err := c.Decode(want); got != s || err != api.OK {
			t.Errorf("Decode(%q): %q %d; asked for: %q", want, got, err, s)
		}
	}
	r := rand.New(rand.NewSource(1701))
	for n := range 60 { // the Coder's own calls know no sizes
		s := randomText(r, n)
		e := own.Encode(s)
		if got := c.Encode(s[:n/3], s[n/3:]); got != e || coder.Encode(s) != e {
			t.Fatalf("Encode(%q): %q; asked for: %q", s, got, e)
		}
		if got, err := c.Decode(e); got != s || err != api.OK {
			t.Fatalf("Decode(%q): %q %d; asked for: %q", e, got, err, s)
		}
		if got := c.Letters(n); got != len(e) {
			t.Fatalf("Letters(%d): %d; asked for: %d", n, got, len(e))
		}
	}
	for _, s := range []string{".", "./", "..A", "+", "=", "YQ==", ". ", "\n"} {
		_, want := own.Decode(s)
		if got, err := c.Decode(s); got != "" || err != want {
			t.Errorf("Decode(%q): %q %d; asked for: %d", s, got, err, want)
		}
	}
	if got := c.Letters(-1); got != 0 {
		t.Errorf("Letters(-1): %d", got)
	}
}

func TestJoinKnownTexts(t *testing.T) {
	c := code(t)
	for _, x := range []struct{ salt, sum, want string }{
		{strings.Repeat("00", 16), strings.Repeat("00", 23), strings.Repeat(".", 53)},
		{strings.Repeat("ff", 16), strings.Repeat("ff", 23), strings.Repeat("9", 21) + "u" + strings.Repeat("9", 30) + "6"},
		{"10410410410410410410410410410410", "1bb69143f9a8d304c8d23d99ab049a77a68e2ccc744206", "CCCCCCCCCCCCCCCCCCCCC.E5YPO9kmyuRGyh0XouQYb4YMJKvyOeW"},
		{"144b3d691a7b4ecf39cf735c7fa7a79c", "557e94f34bf286e8719a26be94ac1e16d95ef9f819dee0", "DCq7YPn5Rq63x1Lad4cll.TV4S6ytwfsfvkgY8jIucDrjc8deX1s."},
		{strings.Repeat("00", 15) + "01", strings.Repeat("00", 22) + "01", strings.Repeat(".", 21) + "O" + strings.Repeat(".", 30) + "C"},
		{"01" + strings.Repeat("00", 15), "01" + strings.Repeat("00", 22), ".O" + strings.Repeat(".", 20) + ".O" + strings.Repeat(".", 29)},
		{strings.Repeat("00", 15) + "ff", strings.Repeat("00", 23), strings.Repeat(".", 20) + "9u" + strings.Repeat(".", 31)},
		{strings.Repeat("00", 16), "ff" + strings.Repeat("00", 22), strings.Repeat(".", 22) + "9u" + strings.Repeat(".", 29)},
	} {
		salt, sum := unhex(t, x.salt), unhex(t, x.sum)
		if got, err := c.Join(salt, sum); got != x.want || err != api.OK {
			t.Errorf("Join(%s, %s): %q %d; asked for: %q", x.salt, x.sum, got, err, x.want)
		}
		if a, b, err := c.Part(x.want); a != salt || b != sum || err != api.OK {
			t.Errorf("Part(%q): %x %x %d; asked for: %s %s", x.want, a, b, err, x.salt, x.sum)
		}
	}
}

func TestJoinOfAllLengths(t *testing.T) {
	c := code(t)
	r := rand.New(rand.NewSource(1702))
	for n := range 50 {
		for m := range 50 {
			checkJoin(t, c, randomText(r, n), randomText(r, m))
		}
	}
	for _, x := range []struct{ salt, sum int }{{23, 16}, {39, 0}, {0, 39}, {16, 1 << 20}, {1 << 20, 23}, {16, 24}, {16, 22}, {17, 23}, {15, 23}, {15, 24}, {17, 22}, {16 + 256, 23}, {16, 23 + 256}, {16 + 1<<16, 23}} {
		checkJoin(t, c, strings.Repeat("\x00", x.salt), strings.Repeat("\x00", x.sum))
	}
}

func TestJoinEachByteInEachPlace(t *testing.T) {
	c := code(t)
	for place := range 16 + 23 {
		for b := range 256 {
			for _, rest := range []byte{0, 255} {
				s := []byte(strings.Repeat(string([]byte{rest}), 16+23))
				s[place] = byte(b)
				checkJoin(t, c, string(s[:16]), string(s[16:]))
			}
		}
	}
}

// P17.2

func TestPartOfAllLengths(t *testing.T) {
	c := code(t)
	for n := range 300 {
		for _, l := range []string{".", "u", "9", "+", "\x00", "\xff", "\n"} {
			err := checkPart(t, c, strings.Repeat(l, n))
			if (err == api.ErrSize) != (n != allLetters) {
				t.Errorf("Part of %d times %q: %d", n, l, err)
			}
		}
	}
	for _, n := range []int{53 + 256, 53 + 1<<16, 1 << 20, 1 << 24} {
		if a, b, err := c.Part(strings.Repeat(".", n)); a != "" || b != "" || err != api.ErrSize {
			t.Errorf("Part of %d letters: %d %d bytes, %d", n, len(a), len(b), err)
		}
	}
	if err := checkPart(t, c, strings.Repeat("\u00e9", 26)+"."); err != api.ErrLetter { // bytes are counted
		t.Errorf("27 runes of 53 bytes: %d", err)
	}
	if err := checkPart(t, c, strings.Repeat("\u00e9", 53)); err != api.ErrSize {
		t.Errorf("53 runes of 106 bytes: %d", err)
	}
}

func TestPartWrongTexts(t *testing.T) {
	c := code(t)
	good := strings.Repeat(".", 22)
	sum := strings.Repeat(".", 31)
	for _, x := range []struct {
		text string
		want api.Errno
	}{
		{"", api.ErrSize}, {good, api.ErrSize}, {sum, api.ErrSize}, {good + sum[1:], api.ErrSize}, {good + sum + ".", api.ErrSize}, {good + sum + "\n", api.ErrSize}, {good + sum + "=", api.ErrSize},
		{"!" + good[1:] + sum[1:], api.ErrSize}, {good[1:] + "/" + sum + ".", api.ErrSize}, // their number is told ahead of what they are
		{good[1:] + "/" + sum, api.ErrForm}, {good[1:] + "N" + sum, api.ErrForm}, {good[1:] + "9" + sum, api.ErrForm}, {good[1:] + "P" + sum, api.ErrForm},
		{good + sum[1:] + "/", api.ErrForm}, {good + sum[1:] + "A", api.ErrForm}, {good + sum[1:] + "B", api.ErrForm}, {good + sum[1:] + "9", api.ErrForm},
		{"+" + good[1:] + sum, api.ErrLetter}, {good[1:] + "=" + sum, api.ErrLetter}, {good[1:] + "+" + sum, api.ErrLetter}, {good + "+" + sum[1:], api.ErrLetter}, {good + sum[1:] + "=", api.ErrLetter},
		{good[1:] + "$" + sum, api.ErrLetter}, {good + sum[1:] + "\n", api.ErrLetter}, {good[1:] + "\n" + sum, api.ErrLetter}, {" " + good[1:] + sum, api.ErrLetter},
		// the salt's error is told ahead of the sum's
		{good[1:] + "/" + "+" + sum[1:], api.ErrForm}, {good[1:] + "/" + sum[1:] + "/", api.ErrForm}, {"+" + good[1:] + sum[1:] + "/", api.ErrLetter}, {good[1:] + "+" + "+" + sum[1:], api.ErrLetter},
		// of each a wrong letter is told ahead of the form
		{"+" + good[2:] + "/" + sum, api.ErrLetter}, {good + "+" + sum[2:] + "/", api.ErrLetter},
		// letters of 39 bytes that were written as one text
		{known("", strings.Repeat("\xff", 39)) + ".", api.ErrForm},
	} {
		if a, b, err := c.Part(x.text); a != "" || b != "" || err != x.want {
			t.Errorf("Part(%q): %q %q %d; asked for: %d", x.text, a, b, err, x.want)
		}
		checkPart(t, c, x.text)
	}
}

func TestPartEachByteInEachPlace(t *testing.T) {
	c := code(t)
	r := rand.New(rand.NewSource(1703))
	for _, whole := range []string{strings.Repeat(".", allLetters), known(randomText(r, 16), randomText(r, 23)), known(strings.Repeat("\xff", 16), strings.Repeat("\xff", 23))} {
		for place := range allLetters {
			for b := range 256 {
				s := []byte(whole)
				s[place] = byte(b)
				checkPart(t, c, string(s))
			}
		}
	}
}

func TestPartEachPairOfLastLetters(t *testing.T) {
	c := code(t)
	r := rand.New(rand.NewSource(1704))
	s := []byte(randomLetters(r, allLetters))
	right := 0
	for i := range 64 {
		for j := range 64 {
			s[21], s[52] = crypt[i], crypt[j]
			want := api.OK
			if i%16 != 0 || j%4 != 0 { // four bits behind the salt's end, two behind the sum's
				want = api.ErrForm
			}
			err := checkPart(t, c, string(s))
			if err != want {
				t.Fatalf("Part(%q): %d; asked for: %d", s, err, want)
			}
			if err == api.OK {
				right++
			}
		}
	}
	if right != 4*16 {
		t.Errorf("%d of all pairs are right", right)
	}
}

func TestPartReadsItsTextAlone(t *testing.T) {
	c := code(t)
	want := known("sixteen bytes ..", "three and twenty bytes.")
	whole := "!" + want + "=behind"
	if a, b, err := c.Part(whole[1:54]); a != "sixteen bytes .." || b != "three and twenty bytes." || err != api.OK {
		t.Errorf("Part of letters within a text: %q %q %d", a, b, err)
	}
}

func TestCallsForgetTheOnesAhead(t *testing.T) {
	c := code(t)
	salt, sum := strings.Repeat("s", 16), strings.Repeat("t", 23)
	want := known(salt, sum)
	for _, s := range []string{"", ".", strings.Repeat("9", 53), strings.Repeat("+", 53), strings.Repeat(".", 53), strings.Repeat(".", 22) + strings.Repeat("9", 31)} {
		c.Part(s)
		c.Join(s, s)
		c.Encode(s)
		c.Decode(s)
		if got, err := c.Join(salt, sum); got != want || err != api.OK {
			t.Errorf("Join behind %q: %q %d", s, got, err)
		}
		if a, b, err := c.Part(want); a != salt || b != sum || err != api.OK {
			t.Errorf("Part behind %q: %q %q %d", s, a, b, err)
		}
	}
}

// of no code

func TestNil(t *testing.T) {
	var c *crypt64.Code
	for _, s := range []string{"", "+", ".", strings.Repeat(".", 53), strings.Repeat("9", 53), strings.Repeat("+", 53), strings.Repeat(".", 54)} {
		if a, b, err := c.Part(s); a != "" || b != "" || err != api.ErrNone {
			t.Errorf("nil: Part(%q): %q %q %d", s, a, b, err)
		}
	}
	for _, x := range []struct{ salt, sum int }{{16, 23}, {0, 0}, {15, 23}, {16, 24}, {17, 22}} {
		if got, err := c.Join(strings.Repeat("s", x.salt), strings.Repeat("t", x.sum)); got != "" || err != api.ErrNone {
			t.Errorf("nil: Join of %d and %d bytes: %q %d", x.salt, x.sum, got, err)
		}
	}
}

func TestNobodyMadeIt(t *testing.T) {
	for _, c := range []*crypt64.Code{new(crypt64.Code), {Coder: new(sextet.Coder)}} { // what they answer isn't promised, but that it ends
		for _, s := range []string{"", "\x00", strings.Repeat("\x00", 53), strings.Repeat(".", 53), strings.Repeat("+", 54)} {
			c.Part(s)
			c.Join(s, s)
		}
		c.Join(strings.Repeat("s", 16), strings.Repeat("t", 23))
	}
}

// P17.3

func TestThereAndBack(t *testing.T) {
	c := code(t)
	r := rand.New(rand.NewSource(1705))
	seen := map[string]string{}
	for range 5000 {
		salt, sum := randomText(r, 16), randomText(r, 23)
		checkJoin(t, c, salt, sum)
		e, _ := c.Join(salt, sum)
		if other, ok := seen[e]; ok && other != salt+sum {
			t.Fatalf("one text of letters of two: %q and %q", salt+sum, other)
		}
		seen[e] = salt + sum
	}
}

func TestWhatIsPartedWasJoinedSo(t *testing.T) {
	c := code(t)
	r := rand.New(rand.NewSource(1706))
	count := map[api.Errno]int{}
	for range 5000 {
		s := []byte(randomLetters(r, allLetters))
		count[checkPart(t, c, string(s))]++
		s[21], s[52] = crypt[r.Intn(4)*16], crypt[r.Intn(16)*4]
		count[checkPart(t, c, string(s))]++
		s[r.Intn(allLetters)] = byte(r.Intn(256))
		count[checkPart(t, c, string(s))]++
	}
	if count[api.OK] < 5000 || count[api.ErrForm] == 0 || count[api.ErrLetter] == 0 {
		t.Errorf("what was tried: %v", count)
	}
}

func TestNoSecondTextOfTheSameBytes(t *testing.T) {
	c := code(t)
	r := rand.New(rand.NewSource(1707))
	for range 20 {
		salt, sum := randomText(r, 16), randomText(r, 23)
		e := known(salt, sum)
		for place := range len(e) {
			for b := range 256 {
				other := e[:place] + string([]byte{byte(b)}) + e[place+1:]
				if x, y, err := c.Part(other); err == api.OK && x == salt && y == sum && other != e {
					t.Fatalf("%q and %q are of the same bytes", e, other)
				}
			}
		}
		for _, other := range []string{e + ".", "." + e, e[:52], e[1:], e + "\n", e[:22] + "." + e[22:]} {
			if x, y, err := c.Part(other); x != "" || y != "" || err != api.ErrSize {
				t.Fatalf("Part(%q): %q %q %d", other, x, y, err)
			}
		}
	}
}
