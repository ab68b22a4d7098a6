package equal_test

import (
	"crypto/subtle"
	"math"
	"math/rand"
	"slices"
	"strings"
	"testing"

	"pestle/api"
	"pestle/equal"
)

// upTo is the Steps of all places below n, rising.
func upTo(n int) []equal.Step {
	var l []equal.Step
	for i := range n {
		l = append(l, equal.Step{Place: i})
	}
	return l
}

// flipped is a text, one bit of which is turned around.
func flipped(s string, place, bit int) string {
	b := []byte(s)
	b[place] ^= 1 << bit
	return string(b)
}

func randomText(r *rand.Rand, n int) string {
	b := make([]byte, n)
	r.Read(b)
	return string(b)
}

// checkTrace holds Trace and Same, both ways round, against what they are to tell.
func checkTrace(t *testing.T, a, b string, want bool) {
	t.Helper()
	places := 0
	if len(a) == len(b) {
		places = len(a)
	}
	for _, p := range [][2]string{{a, b}, {b, a}} {
		is, l := equal.Trace(p[0], p[1])
		if is != want || !slices.Equal(l, upTo(places)) {
			t.Errorf("Trace(%.20q, %.20q): %v %.20v; asked for: %v, %d places", p[0], p[1], is, l, want, places)
		}
		if is := equal.Same(p[0], p[1]); is != want {
			t.Errorf("Same(%.20q, %.20q): %v", p[0], p[1], is)
		}
	}
}

// P13.1

func TestTraceExamples(t *testing.T) {
	is, l := equal.Trace("ab", "ac")
	if is || !slices.Equal(l, []equal.Step{{Place: 0}, {Place: 1}}) {
		t.Error(is, l)
	}
	is, l = equal.Trace("a", "ab")
	if is || len(l) != 0 {
		t.Error(is, l)
	}
}

func TestTraceOfTexts(t *testing.T) {
	for _, c := range []struct {
		a, b string
		want bool
	}{
		{"", "", true},
		{"a", "a", true},
		{"a", "b", false},
		{"\x00", "\x00", true},
		{"\x00", "\x80", false},
		{"\x00", "\x01", false},
		{"\xff", "\xff", true},
		{"\xff", "\x00", false},
		{"ab", "ba", false},
		{"aa", "bb", false}, // unlike twice, by the same bits
		{"password", "password", true},
		{"password", "Password", false},
		{"password", "passwore", false},
		{"p\u00e4ss", "p\u00e4ss", true},
		{"p\u00e4ss", "pa\u0308ss", false}, // they look alike
		{"\xc3\x28", "\xc3\x28", true},     // no letters of UTF-8
		{"\xff\xfe", "\xfe\xff", false},
	} {
		checkTrace(t, c.a, c.b, c.want)
	}
}

func TestTraceOfOtherLengths(t *testing.T) {
	for _, c := range [][2]string{
		{"", "a"}, {"", "\x00"}, {"a", "ab"}, {"ab", "b"}, {"a", "a\x00"}, {"a", "\x00a"}, {"a", "aa"},
		{strings.Repeat("x", 256), strings.Repeat("x", 512)}, {"", strings.Repeat("\x00", 256)}, {"x", strings.Repeat("x", 257)},
		{strings.Repeat("x", 65536), ""},
	} {
		checkTrace(t, c[0], c[1], false)
	}
}

func TestTraceOfAllBytes(t *testing.T) {
	for a := range 256 {
		for b := range 256 {
			x, y := string([]byte{byte(a)}), string([]byte{byte(b)})
			is, l := equal.Trace(x, y)
			if is != (a == b) || equal.Same(x, y) != (a == b) || len(l) != 1 || l[0].Place != 0 {
				t.Fatal(a, b, is, l)
			}
		}
	}
}

// One bit is enough, wherever it is; no other bit makes up for it.
func TestTraceOfOneBit(t *testing.T) {
	s := randomText(rand.New(rand.NewSource(1)), 70)
	for i := range len(s) {
		for bit := range 8 {
			other := flipped(s, i, bit)
			checkTrace(t, s, other, false)
			checkTrace(t, s, flipped(other, (i+1)%len(s), bit), false)
			checkTrace(t, s, flipped(other, i, bit), true)
		}
	}
}

func TestTraceOfAllLengths(t *testing.T) {
	r := rand.New(rand.NewSource(2))
	for n := range 300 {
		s := randomText(r, n)
		checkTrace(t, s, strings.Clone(s), true)
		if n > 0 {
			checkTrace(t, s, flipped(s, 0, r.Intn(8)), false)
			checkTrace(t, s, flipped(s, n-1, r.Intn(8)), false)
			checkTrace(t, s, s[:n-1], false)
			checkTrace(t, s, s[1:], false)
		}
		checkTrace(t, s, s+"\x00", false)
	}
}

func TestTraceOfChance(t *testing.T) {
	r := rand.New(rand.NewSource(3))
	for range 20000 {
		a, b := randomText(r, r.Intn(4)), randomText(r, r.Intn(4))
		if r.Intn(2) == 0 { // few bytes are possible, so that many texts are the same
			a, b = strings.Repeat("ab", 2)[r.Intn(3):], strings.Repeat("ab", 2)[r.Intn(3):]
		}
		checkTrace(t, a, b, subtle.ConstantTimeCompare([]byte(a), []byte(b)) == 1)
	}
}

func TestTraceOfLongTexts(t *testing.T) {
	s := strings.Repeat("0123456789abcdef", 1<<14)
	checkTrace(t, s, strings.Clone(s), true)
	checkTrace(t, s, flipped(s, 0, 7), false)
	checkTrace(t, s, flipped(s, len(s)-1, 0), false)
	checkTrace(t, s, flipped(s, len(s)/2, 3), false)
}

func TestTraceAnswersNewMemory(t *testing.T) {
	_, one := equal.Trace("abc", "abd")
	_, two := equal.Trace("abc", "abd")
	for i := range one {
		one[i].Place = -1
	}
	_, three := equal.Trace("abc", "abd")
	if !slices.Equal(two, upTo(3)) || !slices.Equal(three, upTo(3)) {
		t.Error(two, three)
	}
	_ = append(two[:0], equal.Step{Place: 9}, equal.Step{Place: 9}, equal.Step{Place: 9}, equal.Step{Place: 9})
	if !slices.Equal(three, upTo(3)) {
		t.Error(three)
	}
}

// P13.2

func TestAnyExamples(t *testing.T) {
	for _, c := range []struct {
		a    string
		l    []string
		want bool
		n    int
	}{
		{"ab", []string{"ab", "x", "cd"}, true, 4},
		{"ab", []string{"x", "cd", "ab"}, true, 4},
		{"ab", []string{"cd", "ab", "ef"}, true, 6}, // all are looked at, found or not
		{"ab", []string{"ab", "ab", "ab"}, true, 6},
		{"ab", []string{"ac", "bb", "ba"}, false, 6},
		{"ab", []string{"a", "abc", ""}, false, 0},
		{"ab", []string{"b", "cab", "ab"}, true, 2},
		{"ab", nil, false, 0},
		{"ab", []string{}, false, 0},
		{"", nil, false, 0},
		{"", []string{""}, true, 0},
		{"", []string{"a"}, false, 0},
		{"", []string{"a", "", "b"}, true, 0},
		{"a", []string{"", "a", ""}, true, 1},
		{"\x00", []string{"", "\x00\x00"}, false, 0},
		{"\x00", []string{"\x01", "\x80"}, false, 2},
		{"ac", []string{"ab", "bc"}, false, 4}, // each byte stands in one of them, but in no one both
	} {
		is, n := equal.Any(c.a, c.l...)
		if is != c.want || n != c.n {
			t.Errorf("Any(%q, %q): %v %d; asked for: %v %d", c.a, c.l, is, n, c.want, c.n)
		}
	}
}

func TestAnyOfAllPlaces(t *testing.T) {
	r := rand.New(rand.NewSource(4))
	for n := 1; n < 20; n++ {
		a := randomText(r, 16)
		l := make([]string, n)
		for i := range l {
			l[i] = flipped(a, r.Intn(16), r.Intn(8))
		}
		if is, places := equal.Any(a, l...); is || places != 16*n {
			t.Error(n, is, places)
		}
		for i := range l {
			was := l[i]
			l[i] = a
			if is, places := equal.Any(a, l...); !is || places != 16*n {
				t.Error(n, i, is, places)
			}
			l[i] = was
		}
	}
}

// Any tells what Trace tells of each.
func TestAnyOfChance(t *testing.T) {
	r := rand.New(rand.NewSource(5))
	some := []string{"", "a", "b", "ab", "ba", "aa", "abc", "\x00", "\x00\x00"}
	for range 5000 {
		a := some[r.Intn(len(some))]
		l := make([]string, r.Intn(6))
		want, n := false, 0
		for i := range l {
			l[i] = some[r.Intn(len(some))]
			is, steps := equal.Trace(a, l[i])
			want = want || is
			n += len(steps)
		}
		if is, places := equal.Any(a, l...); is != want || places != n || is != slices.Contains(l, a) {
			t.Fatalf("Any(%q, %q): %v %d", a, l, is, places)
		}
	}
}

func TestAnyLeavesItsList(t *testing.T) {
	whole := []string{"ab", "cd", "ef", "gh"}
	l := whole[:2]
	if is, n := equal.Any("gh", l...); is || n != 4 { // what is behind the list's length is not looked at
		t.Error(is, n)
	}
	if is, n := equal.Any("ab", l...); !is || n != 4 {
		t.Error(is, n)
	}
	if !slices.Equal(whole, []string{"ab", "cd", "ef", "gh"}) {
		t.Error(whole)
	}
}

// P13.3

func TestPickOfAllBytes(t *testing.T) {
	for one := range 256 {
		for none := range 256 {
			if b, err := equal.Pick(1, byte(one), byte(none)); b != byte(one) || err != api.OK {
				t.Fatal(1, one, none, b, err)
			}
			if b, err := equal.Pick(0, byte(one), byte(none)); b != byte(none) || err != api.OK {
				t.Fatal(0, one, none, b, err)
			}
		}
	}
}

func TestPickOfNoBit(t *testing.T) {
	wrong := []int{-1, -2, 2, 3, 4, 5, 127, 128, 255, 256, 257, -255, -256, 1 << 8, 1<<8 + 1, 1 << 16, 1<<32 + 1, 1 << 32, 1 << 62, math.MaxInt, math.MaxInt - 1, math.MinInt, math.MinInt + 1}
	for _, bit := range wrong {
		for _, p := range [][2]byte{{7, 9}, {0, 255}, {255, 0}, {5, 5}} {
			if b, err := equal.Pick(bit, p[0], p[1]); b != 0 || err != api.ErrArg {
				t.Error(bit, p, b, err)
			}
		}
	}
	for bit := -1000; bit <= 1000; bit++ {
		if _, err := equal.Pick(bit, 7, 9); (err == api.OK) != (bit == 0 || bit == 1) {
			t.Error(bit, err)
		}
	}
}

// P13.4

func TestTextsOfTheSameLengthsHaveTheSameSteps(t *testing.T) {
	r := rand.New(rand.NewSource(6))
	for n := range 40 {
		for m := range 40 {
			_, first := equal.Trace(strings.Repeat("a", n), strings.Repeat("a", m))
			for range 4 {
				if _, l := equal.Trace(randomText(r, n), randomText(r, m)); !slices.Equal(l, first) {
					t.Error(n, m, l, first)
				}
			}
		}
	}
}

func TestTextsOfTheSameLengthsHaveTheSameCount(t *testing.T) {
	r := rand.New(rand.NewSource(7))
	for range 500 {
		n := r.Intn(5)
		lengths := make([]int, r.Intn(6))
		want := 0
		for i := range lengths {
			lengths[i] = r.Intn(5)
			if lengths[i] == n {
				want += n
			}
		}
		for _, letter := range []string{"a", "b"} {
			l := make([]string, len(lengths))
			for i, m := range lengths {
				l[i] = strings.Repeat("a", m)
			}
			if _, places := equal.Any(strings.Repeat(letter, n), l...); places != want {
				t.Error(n, lengths, places, want)
			}
		}
	}
}
