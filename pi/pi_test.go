package pi_test

import (
	"fmt"
	"math"
	"math/big"
	"slices"
	"strings"
	"sync"
	"testing"

	"pestle/api"
	"pestle/pi"
)

// count is how many digits there are.
const count = 8 * pi.Count

// arctangent is the one of 1 / x, times 2^bits, by its series.
func arctangent(x int64, bits uint) *big.Int {
	power := new(big.Int).Div(new(big.Int).Lsh(big.NewInt(1), bits), big.NewInt(x))
	sum, square := new(big.Int).Set(power), big.NewInt(-x*x)
	for n := int64(3); power.BitLen() > 1; n += 2 {
		power.Quo(power, square)
		sum.Add(sum, new(big.Int).Quo(power, big.NewInt(n)))
	}
	return sum
}

// behind is the first n digits of pi behind its point, by Machin: 16 times the arctangent of 1/5, less 4 times the one of 1/239, in numbers without bounds.
var behind = sync.OnceValue(func() string {
	const n, more = count + 40, 256
	p := new(big.Int).Mul(arctangent(5, 4*n+more), big.NewInt(16))
	p.Sub(p, new(big.Int).Mul(arctangent(239, 4*n+more), big.NewInt(4)))
	whole, found := strings.CutPrefix(p.Rsh(p, more).Text(16), "3")
	if !found || len(whole) != n {
		panic(whole)
	}
	return whole
})

// wanted is the digit at the place i.
func wanted(i int) int { return strings.IndexByte("0123456789abcdef", behind()[i]) }

// wantedWord is the eight digits of the word i.
func wantedWord(i int) string { return behind()[8*i : 8*i+8] }

func text(w uint32) string { return fmt.Sprintf("%08x", w) }

// refusedPlaces are places without a digit, and those among them whose lowest bits are a place's.
func refusedPlaces() []int {
	return []int{math.MinInt, math.MinInt + 1, -1 << 32, -count, -8, -2, -1,
		count, count + 1, count + 8, 2 * count, 1 << 16, 1 << 32, 1<<32 + 5, api.Most, math.MaxInt - 1, math.MaxInt}
}

// P9.1

// TestFirstDigits: those that the document tells.
func TestFirstDigits(t *testing.T) {
	for i, c := range "243f6a8885a3" {
		want := strings.IndexRune("0123456789abcdef", c)
		if d, e := pi.Digit(i); d != want || e != api.OK {
			t.Errorf("Digit(%d): %d %d, not %d", i, d, e, want)
		}
		if d, e := pi.Reckon(i); d != want || e != api.OK {
			t.Errorf("Reckon(%d): %d %d, not %d", i, d, e, want)
		}
	}
}

func TestDigit(t *testing.T) {
	for i := range count {
		if d, e := pi.Digit(i); d != wanted(i) || e != api.OK {
			t.Fatalf("%d: %d %d, not %d", i, d, e, wanted(i))
		}
	}
}

// TestReckon: the first places, the last ones, and some between.
func TestReckon(t *testing.T) {
	for i := range count {
		if i > 300 && i < count-20 && i%97 != 0 {
			continue
		}
		if d, e := pi.Reckon(i); d != wanted(i) || e != api.OK {
			t.Fatalf("%d: %d %d, not %d", i, d, e, wanted(i))
		}
	}
}

// TestReckonHasRoom: Reckon is sure of a digit as long as the ten behind it are not all 0, nor all 15.
func TestReckonHasRoom(t *testing.T) {
	for i := range count {
		if s := behind()[i+1 : i+11]; s == "0000000000" || s == "ffffffffff" {
			t.Errorf("%d: followed by %s", i, s)
		}
	}
}

func TestDigitRefused(t *testing.T) {
	for _, i := range refusedPlaces() {
		if d, e := pi.Digit(i); d != 0 || e != api.ErrNone {
			t.Errorf("Digit(%d): %d %d", i, d, e)
		}
		if d, e := pi.Reckon(i); d != 0 || e != api.ErrNone {
			t.Errorf("Reckon(%d): %d %d", i, d, e)
		}
	}
}

// P9.2

// TestKnownWords: Blowfish's first words, and the first and the last one of each of its tables.
func TestKnownWords(t *testing.T) {
	known := map[int]string{
		18: "d1310ba6", 273: "6e85076a", 274: "4b7a70e9", 529: "db83adf7",
		530: "e93d5a68", 785: "406000e0", 786: "3a39ce37", 1041: "3ac372e6",
	}
	for i, s := range strings.Fields("243f6a88 85a308d3 13198a2e 03707344 a4093822 299f31d0 082efa98 ec4e6c89 452821e6 38d01377 be5466cf 34e90c6c c0ac29b7 c97c50dd 3f84d5b5 b5470917 9216d5d9 8979fb1b") {
		known[i] = s
	}
	for i, want := range known {
		if w, e := pi.Word(i); text(w) != want || e != api.OK {
			t.Errorf("%d: %s %d, not %s", i, text(w), e, want)
		}
	}
}

func TestCount(t *testing.T) {
	if pi.Count != 18+4*256 {
		t.Error(pi.Count)
	}
}

func TestWord(t *testing.T) {
	for i := range pi.Count {
		if w, e := pi.Word(i); text(w) != wantedWord(i) || e != api.OK {
			t.Fatalf("%d: %s %d, not %s", i, text(w), e, wantedWord(i))
		}
	}
}

func TestWordRefused(t *testing.T) {
	for _, i := range append(refusedPlaces(), pi.Count, pi.Count+1, count-1, 1<<32+1041, 1<<61, 1<<61+1) {
		if w, e := pi.Word(i); w != 0 || e != api.ErrNone {
			t.Errorf("%d: %x %d", i, w, e)
		}
	}
}

// checkWords holds Words against the digits of its words.
func checkWords(t *testing.T, from, many int) {
	t.Helper()
	l, e := pi.Words(from, many)
	if e != api.OK || len(l) != many {
		t.Fatalf("%d words from %d on: %d, %d", many, from, len(l), e)
	}
	for i, w := range l {
		if text(w) != wantedWord(from+i) {
			t.Fatalf("%d words from %d on: at %d %s, not %s", many, from, i, text(w), wantedWord(from+i))
		}
	}
}

func TestWords(t *testing.T) {
	for _, from := range []int{0, 1, 2, 17, 18, 273, 274, 1000} {
		for _, many := range []int{0, 1, 2, 3, 18, 42} {
			checkWords(t, from, many)
		}
	}
	checkWords(t, 18, 1024)
}

// TestWordsToTheEnd: from each place all words that there are, where from behind the last one there are none, but no error.
func TestWordsToTheEnd(t *testing.T) {
	for from := range pi.Count + 1 {
		checkWords(t, from, pi.Count-from)
		if l, e := pi.Words(from, pi.Count-from+1); len(l) != 0 || e != api.ErrNone {
			t.Fatalf("one more from %d on: %d words, %d", from, len(l), e)
		}
	}
}

func TestWordsRefused(t *testing.T) {
	for _, c := range [][2]int{
		{-1, 0}, {-1, 1}, {-1, 5}, {0, -1}, {5, -1}, {-1, -1}, {-5, 10}, {10, -5}, {2000, -1500}, {-1500, 2000},
		{pi.Count, 1}, {pi.Count + 1, 0}, {pi.Count + 1, -1}, {0, pi.Count + 1}, {1, pi.Count}, {1041, 2}, {521, 522}, {1 << 32, 0}, {0, 1 << 32}, {1<<32 + 1, 1},
		{math.MaxInt, 0}, {math.MaxInt, 1}, {math.MaxInt, 2}, {1, math.MaxInt}, {0, math.MaxInt}, {math.MaxInt, math.MaxInt}, {api.Most, api.Most}, {1 << 62, 1 << 62},
		{math.MinInt, 0}, {0, math.MinInt}, {math.MinInt, math.MinInt}, {math.MinInt, math.MaxInt}, {math.MaxInt, math.MinInt}, {-1, math.MinInt}, {math.MinInt, -1},
	} {
		if l, e := pi.Words(c[0], c[1]); len(l) != 0 || e != api.ErrNone {
			t.Errorf("%d words from %d on: %d, %d", c[1], c[0], len(l), e)
		}
	}
}

// TestWordsAreNew: what is done to an answer is not seen in another one (R2).
func TestWordsAreNew(t *testing.T) {
	l, _ := pi.Words(10, 20)
	clear(l)
	_ = append(l, 1, 2, 3)
	checkWords(t, 0, pi.Count)
	if !slices.Equal(l, make([]uint32, 20)) {
		t.Errorf("changed by a later call: %x", l)
	}
}

// P9.3

// TestLookedUpIsReckoned: at all places; each worker has each of its places alone.
func TestLookedUpIsReckoned(t *testing.T) {
	const workers = 16
	var g sync.WaitGroup
	for from := range workers {
		g.Go(func() {
			for i := from; i < count; i += workers {
				a, e := pi.Digit(i)
				if b, f := pi.Reckon(i); a != b || e != api.OK || f != api.OK {
					t.Errorf("%d: Digit %d %d, Reckon %d %d", i, a, e, b, f)
				}
			}
		})
	}
	g.Wait()
}
