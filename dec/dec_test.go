package dec_test

import (
	"math"
	"math/big"
	"math/rand"
	"strconv"
	"strings"
	"testing"

	"pestle/api"
	"pestle/dec"
)

// numbers are the edges of digits, of powers and of Most, and some of chance.
func numbers() []int {
	l := []int{0, api.Most - 1, api.Most, api.Most + 1, math.MaxInt - 1, math.MaxInt}
	for p, n := 0, 1; p < 19; p, n = p+1, n*10 {
		l = append(l, n-1, n, n+1, 5*(n/10))
	}
	for p := range 63 {
		l = append(l, 1<<p-1, 1<<p, 1<<p+1)
	}
	r := rand.New(rand.NewSource(1801))
	for range 3000 {
		l = append(l, int(r.Uint64()>>(1+r.Intn(63))))
	}
	return l
}

// plain is what a Read is, by numbers without bounds.
func plain(s string) (int, api.Errno) {
	if s == "" || strings.Trim(s, "0123456789") != "" || len(s) > 1 && s[0] == '0' {
		return 0, api.ErrNumber
	}
	for i := range len(s) {
		if !strings.Contains("0123456789", s[i:i+1]) {
			return 0, api.ErrNumber
		}
	}
	n, _ := new(big.Int).SetString(s, 10)
	if n.Cmp(big.NewInt(api.Most)) > 0 {
		return 0, api.ErrOver
	}
	return int(n.Int64()), api.OK
}

func holdRead(t *testing.T, s string) {
	t.Helper()
	n, e := dec.Read(s)
	if wantN, wantE := plain(s); n != wantN || e != wantE {
		if len(s) > 60 {
			s = s[:60] + ".."
		}
		t.Fatalf("Read(%q) is %d, %d, not %d, %d", s, n, e, wantN, wantE)
	}
}

// P18.1

func TestTextOfNumbers(t *testing.T) {
	for n := range 100_000 {
		if s := dec.Text(n); s != strconv.Itoa(n) {
			t.Fatalf("Text(%d) is %q", n, s)
		}
	}
	for _, n := range numbers() {
		if s := dec.Text(n); s != strconv.Itoa(n) {
			t.Fatalf("Text(%d) is %q", n, s)
		}
	}
}

func TestTextBelowNothing(t *testing.T) {
	for _, n := range []int{-1, -2, -9, -10, -11, -api.Most, math.MinInt + 1, math.MinInt} {
		if s := dec.Text(n); s != "" {
			t.Errorf("Text(%d) is %q", n, s)
		}
	}
}

func TestReadOfKnownTexts(t *testing.T) {
	for _, c := range []struct {
		s string
		n int
		e api.Errno
	}{
		{"0", 0, api.OK},
		{"1", 1, api.OK},
		{"9", 9, api.OK},
		{"10", 10, api.OK},
		{"19", 19, api.OK},
		{"65536", 65536, api.OK},
		{"4294967295", 4294967295, api.OK},
		{"4611686018427387899", api.Most - 5, api.OK},
		{"4611686018427387903", api.Most - 1, api.OK},
		{"4611686018427387904", api.Most, api.OK},
		{"4611686018427387905", 0, api.ErrOver},
		{"4611686018427387909", 0, api.ErrOver},
		{"4611686018427387910", 0, api.ErrOver},
		{"5000000000000000000", 0, api.ErrOver},
		{"9223372036854775807", 0, api.ErrOver},
		{"9223372036854775808", 0, api.ErrOver},
		{"9999999999999999999", 0, api.ErrOver},
		{"18446744073709551616", 0, api.ErrOver}, // 2^64: 0, were it to wrap around
		{"18446744073709551617", 0, api.ErrOver},
		{"46116860184273879040", 0, api.ErrOver},
		{"", 0, api.ErrNumber},
		{"00", 0, api.ErrNumber},
		{"01", 0, api.ErrNumber},
		{"010", 0, api.ErrNumber},
		{"04611686018427387905", 0, api.ErrNumber}, // ahead of ErrOver
		{"4611686018427387905x", 0, api.ErrNumber},
		{"x4611686018427387905", 0, api.ErrNumber},
		{"-1", 0, api.ErrNumber},
		{"-0", 0, api.ErrNumber},
		{"+1", 0, api.ErrNumber},
		{"-", 0, api.ErrNumber},
		{" 1", 0, api.ErrNumber},
		{"1 ", 0, api.ErrNumber},
		{"1\n", 0, api.ErrNumber},
		{"1_0", 0, api.ErrNumber},
		{"1,0", 0, api.ErrNumber},
		{"1.0", 0, api.ErrNumber},
		{"1e3", 0, api.ErrNumber},
		{"0x1", 0, api.ErrNumber},
		{"1a", 0, api.ErrNumber},
		{"1\x00", 0, api.ErrNumber},
		{"\u0661", 0, api.ErrNumber}, // a digit, but of another script
		{"\uff11", 0, api.ErrNumber},
		{"1/", 0, api.ErrNumber},
		{"1:", 0, api.ErrNumber},
	} {
		if n, e := dec.Read(c.s); n != c.n || e != c.e {
			t.Errorf("Read(%q) is %d, %d, not %d, %d", c.s, n, e, c.n, c.e)
		}
	}
}

func TestReadOfManyDigits(t *testing.T) {
	for n := range 400 {
		for _, d := range []string{"1", "4", "5", "9", "0"} {
			holdRead(t, strings.Repeat(d, n))
			holdRead(t, "4"+strings.Repeat(d, n))
			holdRead(t, strings.Repeat(d, n)+"a")
			holdRead(t, "0"+strings.Repeat(d, n))
		}
	}
	if n, e := dec.Read(strings.Repeat("7", 1<<20)); n != 0 || e != api.ErrOver {
		t.Errorf("of 2^20 digits: %d, %d", n, e)
	}
	if n, e := dec.Read(strings.Repeat("7", 1<<20) + "-"); n != 0 || e != api.ErrNumber {
		t.Errorf("of 2^20 digits and a dash: %d, %d", n, e)
	}
}

func TestReadEveryByteInEachPlace(t *testing.T) {
	for _, s := range []string{"7", "10", "4096", "4611686018427387904", "4611686018427387905", "99999999999999999999"} {
		for i := range len(s) {
			for b := range 256 {
				holdRead(t, s[:i]+string([]byte{byte(b)})+s[i+1:])
			}
		}
	}
}

func TestReadOfChance(t *testing.T) {
	const letters = "00112345678999a-"
	r := rand.New(rand.NewSource(1802))
	for range 20_000 {
		b := make([]byte, r.Intn(24))
		for i := range b {
			b[i] = letters[r.Intn(len(letters)-2*r.Intn(2))]
		}
		holdRead(t, string(b))
	}
}

func TestBetween(t *testing.T) {
	for _, c := range []struct {
		s           string
		least, most int
		n           int
		e           api.Errno
	}{
		{"7", 7, 7, 7, api.OK},
		{"7", 0, 10, 7, api.OK},
		{"7", 7, 8, 7, api.OK},
		{"7", 6, 7, 7, api.OK},
		{"7", 8, 9, 0, api.ErrParams},
		{"7", 5, 6, 0, api.ErrParams},
		{"7", 8, 6, 0, api.ErrParams}, // no number is between these
		{"7", 7, 6, 0, api.ErrParams},
		{"0", 0, 0, 0, api.OK},
		{"0", 1, 5, 0, api.ErrParams},
		{"0", -5, -1, 0, api.ErrParams},
		{"0", -5, 5, 0, api.OK},
		{"0", math.MinInt, math.MaxInt, 0, api.OK},
		{"3", math.MinInt, math.MaxInt, 3, api.OK},
		{"3", math.MaxInt, math.MinInt, 0, api.ErrParams},
		{"4611686018427387904", api.Most, math.MaxInt, api.Most, api.OK},
		{"4611686018427387904", 0, api.Most - 1, 0, api.ErrParams},
		{"4611686018427387904", api.Most + 1, math.MaxInt, 0, api.ErrParams},
		{"4611686018427387905", 0, math.MaxInt, 0, api.ErrOver},
		{"4611686018427387905", 0, 9, 0, api.ErrOver}, // ahead of ErrParams
		{"99999999999999999999", 9, 0, 0, api.ErrOver},
		{"", 0, 9, 0, api.ErrNumber},
		{"", 1, 0, 0, api.ErrNumber},
		{"07", 0, 9, 0, api.ErrNumber},
		{"07", 8, 9, 0, api.ErrNumber},
		{"-1", -9, 9, 0, api.ErrNumber},
		{"x", 9, 0, 0, api.ErrNumber},
	} {
		if n, e := dec.Between(c.s, c.least, c.most); n != c.n || e != c.e {
			t.Errorf("Between(%q, %d, %d) is %d, %d, not %d, %d", c.s, c.least, c.most, n, e, c.n, c.e)
		}
	}
}

func TestBetweenAllSmall(t *testing.T) {
	for n := range 12 {
		for least := -2; least < 14; least++ {
			for most := -2; most < 14; most++ {
				got, e := dec.Between(strconv.Itoa(n), least, most)
				want, wantE := n, api.OK
				if n < least || n > most {
					want, wantE = 0, api.ErrParams
				}
				if got != want || e != wantE {
					t.Fatalf("Between(%d, %d, %d) is %d, %d", n, least, most, got, e)
				}
			}
		}
	}
}

// P18.2

func TestTwo(t *testing.T) {
	for n := range 100 {
		want := strconv.Itoa(n)
		if n < 10 {
			want = "0" + want
		}
		if s, e := dec.Two(n); s != want || e != api.OK {
			t.Errorf("Two(%d) is %q, %d", n, s, e)
		}
		if got, e := dec.ReadTwo(want); got != n || e != api.OK {
			t.Errorf("ReadTwo(%q) is %d, %d", want, got, e)
		}
	}
	for _, n := range []int{-1, -2, -10, -99, -100, 100, 101, 109, 110, 255, 256, 1 << 32, 1<<32 + 5, api.Most, math.MinInt, math.MaxInt} {
		if s, e := dec.Two(n); s != "" || e != api.ErrArg {
			t.Errorf("Two(%d) is %q, %d", n, s, e)
		}
	}
}

func TestReadTwoOfAllTexts(t *testing.T) {
	written := map[string]int{}
	for n := range 100 {
		s, _ := dec.Two(n)
		written[s] = n
	}
	if len(written) != 100 {
		t.Fatalf("%d texts of a hundred numbers", len(written))
	}
	hold := func(s string) {
		t.Helper()
		want, e := 0, api.ErrNumber
		if n, ok := written[s]; ok {
			want, e = n, api.OK
		}
		if got, gotE := dec.ReadTwo(s); got != want || gotE != e {
			t.Fatalf("ReadTwo(%q) is %d, %d, not %d, %d", s, got, gotE, want, e)
		}
	}
	hold("")
	for a := range 256 {
		hold(string([]byte{byte(a)}))
		for b := range 256 {
			hold(string([]byte{byte(a), byte(b)}))
		}
	}
	for _, s := range []string{"000", "007", "100", "070", "12 ", " 12", "0000", "1234", "4611686018427387904", "\u0661", "\u0661\u0662", strings.Repeat("1", 5000)} {
		hold(s)
	}
}

// P18.3

func TestList(t *testing.T) {
	for _, c := range []struct {
		between string
		l       []int
		want    string
	}{
		{",", nil, ""},
		{",", []int{}, ""},
		{",", []int{0}, "0"},
		{",", []int{-1}, "-"},
		{",", []int{1, 2, 3}, "1,2,3"},
		{", ", []int{1, -2}, "1, -"},
		{", ", []int{-2, 1}, "-, 1"},
		{"", []int{1, 0, 23}, "1023"},
		{"", []int{-1, -1, -1}, "---"},
		{"-", []int{-1, 5, -1}, "--5--"},
		{"between", []int{10, 100}, "10between100"},
		{"\x00\xff", []int{9, 9, 9}, "9\x00\xff9\x00\xff9"},
		{" ", []int{math.MinInt, math.MaxInt, api.Most + 1}, "- 9223372036854775807 4611686018427387905"},
	} {
		if s := dec.List(c.between, c.l...); s != c.want {
			t.Errorf("List(%q, %v) is %q", c.between, c.l, s)
		}
	}
	if s := dec.List(";"); s != "" {
		t.Errorf("List of none is %q", s)
	}
	if s := dec.List(";", 4, 5); s != "4;5" {
		t.Errorf("List of two is %q", s)
	}
}

func TestListAsJoined(t *testing.T) {
	r := rand.New(rand.NewSource(1803))
	for n := range 300 {
		l, parts := make([]int, n), make([]string, n)
		for i := range l {
			l[i] = int(r.Uint64()) >> r.Intn(64)
			parts[i] = "-"
			if l[i] >= 0 {
				parts[i] = strconv.Itoa(l[i])
			}
		}
		for _, between := range []string{"", ",", ", ", "12"} {
			if s := dec.List(between, l...); s != strings.Join(parts, between) {
				t.Fatalf("List(%q) of %v is %q", between, l, s)
			}
		}
	}
}

func TestListLeavesTheNumbers(t *testing.T) {
	room := []int{1, -2, 30, 77, 88}
	if s := dec.List(".", room[:3]...); s != "1.-.30" {
		t.Errorf("List is %q", s)
	}
	for i, n := range []int{1, -2, 30, 77, 88} {
		if room[i] != n {
			t.Errorf("number %d is %d now", i, room[i])
		}
	}
}

// P18.4

func TestWhatIsWrittenIsRead(t *testing.T) {
	for _, n := range numbers() {
		got, e := dec.Read(dec.Text(n))
		want, wantE := n, api.OK
		if n > api.Most {
			want, wantE = 0, api.ErrOver
		}
		if got != want || e != wantE {
			t.Fatalf("Read of the Text of %d is %d, %d", n, got, e)
		}
	}
}

func TestNothingElseIsRead(t *testing.T) {
	const letters = "0123459-+ x"
	var all func(s string, left int)
	read := 0
	all = func(s string, left int) {
		if n, e := dec.Read(s); e == api.OK {
			read++
			if dec.Text(n) != s {
				t.Fatalf("Read(%q) is %d", s, n)
			}
		} else if n != 0 || e != api.ErrNumber {
			t.Fatalf("Read(%q) is %d, %d", s, n, e)
		}
		if left == 0 {
			return
		}
		for i := range len(letters) {
			all(s+letters[i:i+1], left-1)
		}
	}
	all("", 4)
	if want := 7 + 6*7 + 6*7*7 + 6*7*7*7; read != want {
		t.Errorf("%d texts were read, not %d", read, want)
	}
}
