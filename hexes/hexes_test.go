package hexes_test

import (
	"encoding/hex"
	"fmt"
	"math/rand"
	"slices"
	"strings"
	"testing"

	"pestle/api"
	"pestle/hexes"
)

const digits = "0123456789abcdef"

// allBytes is every byte once, rising.
func allBytes() string {
	var b []byte
	for i := range 256 {
		b = append(b, byte(i))
	}
	return string(b)
}

func randomText(r *rand.Rand, n int) string {
	b := make([]byte, n)
	r.Read(b)
	return string(b)
}

// checkText holds all that the package says of a text against another encoding, there and back.
func checkText(t *testing.T, s string) {
	t.Helper()
	want := hex.EncodeToString([]byte(s))
	if got := hexes.Encode(s); got != want {
		t.Fatalf("Encode(%.20q): %.40q; asked for: %.40q", s, got, want)
	}
	if got, err := hexes.Decode(want); got != s || err != api.OK {
		t.Fatalf("Decode(%.40q): %.20q %d", want, got, err)
	}
	if s == "" {
		want = "-"
	}
	if got := hexes.Dash(s); got != want {
		t.Fatalf("Dash(%.20q): %.40q; asked for: %.40q", s, got, want)
	}
	if got, err := hexes.Undash(want); got != s || err != api.OK {
		t.Fatalf("Undash(%.40q): %.20q %d", want, got, err)
	}
}

// checkWrong holds Decode's error of a text that is no digits, and Undash's, which is the same but of texts that no Decode sees.
func checkWrong(t *testing.T, s string, want api.Errno) {
	t.Helper()
	if got, err := hexes.Decode(s); got != "" || err != want {
		t.Errorf("Decode(%.40q): %.20q %d; asked for: %d", s, got, err, want)
	}
	if s == "-" {
		return
	}
	if got, err := hexes.Undash(s); got != "" || err != want {
		t.Errorf("Undash(%.40q): %.20q %d; asked for: %d", s, got, err, want)
	}
}

// wrongOf is the error that a text has as digits, told by the document's own words.
func wrongOf(s string) api.Errno {
	for _, c := range []byte(s) {
		if !strings.Contains(digits, string(rune(c))) {
			return api.ErrLetter
		}
	}
	if len(s)%2 != 0 {
		return api.ErrSize
	}
	return api.OK
}

// P14.1

func TestExamples(t *testing.T) {
	if s := hexes.Encode("a", "\xff"); s != "61ff" {
		t.Error(s)
	}
	if s, err := hexes.Decode("6"); s != "" || err != api.ErrSize {
		t.Error(s, err)
	}
	if s, err := hexes.Decode("6A"); s != "" || err != api.ErrLetter {
		t.Error(s, err)
	}
}

func TestEncode(t *testing.T) {
	for _, c := range []struct {
		parts []string
		want  string
	}{
		{nil, ""},
		{[]string{}, ""},
		{[]string{""}, ""},
		{[]string{"", "", ""}, ""},
		{[]string{"\x00"}, "00"},
		{[]string{"\x01\x10"}, "0110"}, // the higher digit stands first
		{[]string{"\x00", "\x00\x00"}, "000000"},
		{[]string{"\x9a\xa9\xf0\x0f"}, "9aa9f00f"},
		{[]string{"", "a", "", "b", ""}, "6162"},
		{[]string{"abc"}, "616263"},
		{[]string{"a", "b", "c"}, "616263"},
		{[]string{"c", "ba"}, "636261"},
		{[]string{"\u00e4"}, "c3a4"}, // bytes, not letters
		{[]string{"\xc3", "\xa4"}, "c3a4"},
		{[]string{"\xff\xfe\x80\x7f"}, "fffe807f"},
		{[]string{"0f"}, "3066"},
	} {
		if got := hexes.Encode(c.parts...); got != c.want {
			t.Errorf("Encode(%q): %q; asked for: %q", c.parts, got, c.want)
		}
	}
}

func TestTextsOfOneAndTwoBytes(t *testing.T) {
	for a := range 256 {
		checkText(t, string([]byte{byte(a)}))
		for b := range 256 {
			checkText(t, string([]byte{byte(a), byte(b)}))
		}
	}
}

func TestTextsOfAllLengths(t *testing.T) {
	r := rand.New(rand.NewSource(1))
	for n := range 600 {
		checkText(t, randomText(r, n))
	}
	checkText(t, allBytes())
	checkText(t, strings.Repeat("\x00", 1000))
	checkText(t, strings.Repeat("\xff", 1000))
	checkText(t, randomText(r, 1<<20))
}

// However a text is parted, its digits are the same.
func TestEncodeOfParts(t *testing.T) {
	r := rand.New(rand.NewSource(2))
	for range 2000 {
		s := randomText(r, r.Intn(40))
		var parts []string
		for rest := s; rest != "" || r.Intn(3) > 0; {
			n := r.Intn(len(rest) + 1)
			parts, rest = append(parts, rest[:n]), rest[n:]
		}
		whole := slices.Clone(parts)
		if got := hexes.Encode(parts...); got != hex.EncodeToString([]byte(s)) {
			t.Fatalf("Encode(%q): %q", parts, got)
		}
		if !slices.Equal(parts, whole) {
			t.Fatal(parts, whole)
		}
	}
}

func TestEncodeLeavesWhatIsBehindItsList(t *testing.T) {
	whole := []string{"a", "b", "c"}
	if s := hexes.Encode(whole[:1]...); s != "61" {
		t.Error(s)
	}
	if !slices.Equal(whole, []string{"a", "b", "c"}) {
		t.Error(whole)
	}
}

func TestDecodeOfPairs(t *testing.T) {
	for i, high := range []byte(digits) {
		for j, low := range []byte(digits) {
			s, err := hexes.Decode(string([]byte{high, low}))
			if err != api.OK || s != string([]byte{byte(16*i + j)}) {
				t.Errorf("%c%c: %q %d", high, low, s, err)
			}
		}
	}
	if s, err := hexes.Decode(""); s != "" || err != api.OK {
		t.Error(s, err)
	}
}

// Of all bytes just sixteen are digits, as the first one and as the second.
func TestDecodeOfAllLetters(t *testing.T) {
	for c := range 256 {
		letter := string([]byte{byte(c)})
		if strings.Contains(digits, string(rune(c))) {
			checkWrong(t, letter, api.ErrSize)
			continue
		}
		for _, s := range []string{letter, letter + "0", "0" + letter, letter + letter, "00" + letter, "00" + letter + "0", "000" + letter, letter + "000"} {
			checkWrong(t, s, api.ErrLetter)
		}
	}
}

func TestDecodeOfWrongTexts(t *testing.T) {
	for _, c := range []struct {
		s    string
		want api.Errno
	}{
		{"6", api.ErrSize},
		{"0", api.ErrSize},
		{"f", api.ErrSize},
		{"616", api.ErrSize},
		{"61626", api.ErrSize},
		{strings.Repeat("0", 4097), api.ErrSize},
		{"A", api.ErrLetter}, // not even in number, too: the letter is told
		{"6A6", api.ErrLetter},
		{"61g", api.ErrLetter},
		{"6A", api.ErrLetter},
		{"FF", api.ErrLetter},
		{"fF", api.ErrLetter},
		{"0x", api.ErrLetter},
		{"0x61", api.ErrLetter},
		{"6g", api.ErrLetter},
		{"`0", api.ErrLetter}, // ahead of a
		{"/0", api.ErrLetter}, // ahead of 0
		{":0", api.ErrLetter}, // behind 9
		{" 61", api.ErrLetter},
		{"61 ", api.ErrLetter},
		{"61 62", api.ErrLetter},
		{"61\n", api.ErrLetter},
		{"61\x00", api.ErrLetter},
		{"-", api.ErrLetter},
		{"--", api.ErrLetter},
		{"-61", api.ErrLetter},
		{"61-", api.ErrLetter},
		{"-6", api.ErrLetter},
		{"+6", api.ErrLetter},
		{"6_1", api.ErrLetter},
		{"\u00b2\u00b2", api.ErrLetter}, // digits of another kind
		{"\uff16\uff11", api.ErrLetter},
		{"\u0666\u0661", api.ErrLetter},
		{"\xb6\xb1", api.ErrLetter}, // the bits of 6 and 1, and one more
		{"\xff", api.ErrLetter},
		{strings.Repeat("0", 4096) + "F", api.ErrLetter},
		{"F" + strings.Repeat("0", 4096), api.ErrLetter},
	} {
		checkWrong(t, c.s, c.want)
	}
}

// One wrong letter is enough, wherever it stands; one letter too few or too many, too.
func TestDecodeOfOneWrongLetter(t *testing.T) {
	r := rand.New(rand.NewSource(3))
	for n := 1; n < 80; n++ {
		s := hexes.Encode(randomText(r, n))
		for i := range len(s) {
			for _, c := range []byte{'G', 'g', 'A', 'F', '-', ' ', 0, 0x80 | s[i]} {
				wrong := s[:i] + string([]byte{c}) + s[i+1:]
				checkWrong(t, wrong, api.ErrLetter)
				checkWrong(t, wrong+"0", api.ErrLetter)
			}
			checkWrong(t, s[:i]+s[i+1:], api.ErrSize)
			checkWrong(t, s[:i]+"0"+s[i:], api.ErrSize)
		}
	}
}

func TestDecodeOfChance(t *testing.T) {
	r := rand.New(rand.NewSource(4))
	letters := digits + digits + digits + "ABFGg-/:`@ "
	for range 50000 {
		b := make([]byte, r.Intn(9))
		for i := range b {
			b[i] = letters[r.Intn(len(letters))]
		}
		s := string(b)
		if want := wrongOf(s); want != api.OK {
			if s != "" {
				checkWrong(t, s, want)
			}
			continue
		}
		want, _ := hex.DecodeString(s)
		if got, err := hexes.Decode(s); got != string(want) || err != api.OK {
			t.Fatalf("Decode(%q): %q %d", s, got, err)
		}
	}
}

// P14.2

func TestWords(t *testing.T) {
	for _, c := range []struct {
		l    []uint32
		want string
	}{
		{nil, ""},
		{[]uint32{}, ""},
		{[]uint32{0}, "00000000"},
		{[]uint32{0, 0}, "00000000 00000000"},
		{[]uint32{1}, "00000001"},
		{[]uint32{1, 0xabc}, "00000001 00000abc"},
		{[]uint32{0xffffffff}, "ffffffff"},
		{[]uint32{0x80000000}, "80000000"},
		{[]uint32{0x01234567, 0x89abcdef}, "01234567 89abcdef"},
		{[]uint32{0xfedcba98, 0x76543210}, "fedcba98 76543210"},
		{[]uint32{0x4ef99745, 0x6198dd78}, "4ef99745 6198dd78"},
		{[]uint32{1, 2, 3}, "00000001 00000002 00000003"},
	} {
		if got := hexes.Words(c.l...); got != c.want {
			t.Errorf("Words(%x): %q; asked for: %q", c.l, got, c.want)
		}
	}
}

// Each bit of a word is a bit of just one of its digits.
func TestWordsOfOneBit(t *testing.T) {
	for bit := range 32 {
		want := []byte("00000000")
		want[7-bit/4] = digits[1<<(bit%4)]
		if got := hexes.Words(1 << bit); got != string(want) {
			t.Error(bit, got)
		}
	}
}

func TestWordsOfChance(t *testing.T) {
	r := rand.New(rand.NewSource(5))
	for n := range 200 {
		l := make([]uint32, n)
		var want []string
		for i := range l {
			l[i] = r.Uint32() >> r.Intn(32)
			want = append(want, fmt.Sprintf("%08x", l[i]))
		}
		was := slices.Clone(l)
		if got := hexes.Words(l...); got != strings.Join(want, " ") {
			t.Errorf("Words(%x): %q", l, got)
		}
		if !slices.Equal(l, was) {
			t.Error(l, was)
		}
	}
}

func TestWordsLeavesWhatIsBehindItsList(t *testing.T) {
	whole := []uint32{1, 2, 3}
	if s := hexes.Words(whole[:2]...); s != "00000001 00000002" {
		t.Error(s)
	}
}

func TestDash(t *testing.T) {
	for _, c := range [][2]string{
		{"", "-"},
		{"-", "2d"},
		{"--", "2d2d"},
		{"\x00", "00"},
		{"a", "61"},
		{"2d", "3264"},
		{"U*U", "552a55"},
		{"\xff\x00", "ff00"},
	} {
		if got := hexes.Dash(c[0]); got != c[1] {
			t.Errorf("Dash(%q): %q; asked for: %q", c[0], got, c[1])
		}
		if got, err := hexes.Undash(c[1]); got != c[0] || err != api.OK {
			t.Errorf("Undash(%q): %q %d", c[1], got, err)
		}
	}
}

func TestUndashOfWrongTexts(t *testing.T) {
	if s, err := hexes.Undash(""); s != "" || err != api.ErrForm {
		t.Error(s, err)
	}
	if s, err := hexes.Undash("-"); s != "" || err != api.OK {
		t.Error(s, err)
	}
	for _, c := range []struct {
		s    string
		want api.Errno
	}{
		{"--", api.ErrLetter}, // a dash stands alone
		{"---", api.ErrLetter},
		{"-61", api.ErrLetter},
		{"61-", api.ErrLetter},
		{"- ", api.ErrLetter},
		{" -", api.ErrLetter},
		{" ", api.ErrLetter},
		{"_", api.ErrLetter},
		{"\u2013", api.ErrLetter}, // dashes of another kind
		{"\u2212", api.ErrLetter},
		{"6", api.ErrSize},
		{"2d2", api.ErrSize},
		{"2D", api.ErrLetter},
		{"6A6", api.ErrLetter},
	} {
		if s, err := hexes.Undash(c.s); s != "" || err != c.want {
			t.Errorf("Undash(%q): %q %d; asked for: %d", c.s, s, err, c.want)
		}
	}
}

// P14.3: what is encoded is decoded, which checkText asks everywhere; and digits come back as they were.

func TestDigitsComeBack(t *testing.T) {
	r := rand.New(rand.NewSource(6))
	for n := range 300 {
		b := make([]byte, 2*n)
		for i := range b {
			b[i] = digits[r.Intn(len(digits))]
		}
		d := string(b)
		s, err := hexes.Decode(d)
		if err != api.OK || len(s) != n || hexes.Encode(s) != d {
			t.Errorf("Decode(%q): %q %d", d, s, err)
		}
		if n == 0 {
			continue
		}
		if s, err := hexes.Undash(d); err != api.OK || hexes.Dash(s) != d {
			t.Errorf("Undash(%q): %q %d", d, s, err)
		}
	}
}

// Each text of few letters is the Dash of no text, or of just the one that Undash tells.
func TestUndashOfAllShortTexts(t *testing.T) {
	letters := "09afAF-g /"
	texts := []string{""}
	for from := 0; len(texts) < 11111; from++ { // all of up to four letters
		for _, c := range []byte(letters) {
			texts = append(texts, texts[from]+string([]byte{c}))
		}
	}
	for _, d := range texts {
		s, err := hexes.Undash(d)
		if err == api.OK && hexes.Dash(s) != d {
			t.Errorf("Undash(%q): %q, whose Dash is another", d, s)
		}
		want := wrongOf(d)
		switch d {
		case "":
			want = api.ErrForm
		case "-":
			want = api.OK
		}
		if err != want || err != api.OK && s != "" {
			t.Errorf("Undash(%q): %q %d; asked for: %d", d, s, err, want)
		}
	}
}
