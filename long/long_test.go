package long_test

import (
	"crypto/sha256"
	"encoding/binary"
	"encoding/hex"
	"math"
	"math/rand"
	"slices"
	"strings"
	"testing"

	"pestle/api"
	"pestle/blake"
	"pestle/long"
)

// text is n bytes of all kinds, that go on another way every 251 bytes.
func text(n int) string {
	b := make([]byte, n)
	for i := range b {
		b[i] = byte(i%251 + i/251)
	}
	return string(b)
}

func digits(s string) string { return hex.EncodeToString([]byte(s)) }

// digest is SHA-256's sum of a text, in digits, by which long ones are told apart.
func digest(s string) string {
	b := sha256.Sum256([]byte(s))
	return hex.EncodeToString(b[:])
}

// little is the four bytes of a number, the lowest one first.
func little(n int) string { return string(binary.LittleEndian.AppendUint32(nil, uint32(n))) }

// sum is blake's sum of a text, without a key.
func sum(t *testing.T, size int, text string) string {
	t.Helper()
	s, e := blake.Of(size, "", text)
	if e != api.OK {
		t.Fatalf("blake.Of %d: %d", size, e)
	}
	return s
}

// plain is a long sum, and how often 32 bytes were put out ahead of the last ones, as the document tells it.
func plain(t *testing.T, size int, all string) (string, int) {
	t.Helper()
	all = little(size) + all
	if size <= 64 {
		return sum(t, size, all), 0
	}
	v, out, halves := sum(t, 64, all), []byte(nil), 0
	for {
		out, halves = append(out, v[:32]...), halves+1
		if lacking := size - len(out); lacking <= 64 {
			return string(out) + sum(t, lacking, v), halves
		}
		v = sum(t, 64, v)
	}
}

// made is a long sum of which Long tells no error.
func made(t *testing.T, size int, parts ...string) string {
	t.Helper()
	s, e := long.Long(size, parts...)
	if e != api.OK {
		t.Fatalf("Long of %d: %d", size, e)
	}
	return s
}

// sizes are those about the ends of sums, of halves and of what a byte of the size holds, and the greatest.
func sizes() []int {
	var l []int
	for n := range 300 {
		l = append(l, n+1)
	}
	for _, n := range []int{511, 512, 513, 1022, 1023, 1024, 1025, 1055, 1056, 1057, 4095, 4096, 4097, 32767, 32768, 32769, 65503, 65504, 65505, 65534, 65535, 65536} {
		l = append(l, n)
	}
	return l
}

// refused are sizes that may not be, those among them whose lowest bits are some that may.
func refused() []int {
	return []int{0, -1, -2, -64, -65, -1024, -65536, 65537, 65538, 65600, 1 << 17, 1 << 20, 1<<32 + 1, 1<<32 + 64, 1<<32 + 1024, api.Most, -api.Most, math.MaxInt32, math.MinInt32, math.MaxInt, math.MinInt, math.MinInt + 64}
}

// P8.1

// TestKnown: sums of another BLAKE2b, each about an end of what one sum, or two, have.
func TestKnown(t *testing.T) {
	for _, c := range []struct {
		size int
		sum  string
	}{
		{1, "79"},
		{4, "3e6c02ac"},
		{32, "6cfcbf5d43e547674bfbc009070570bcb84e272d359c1e9277e416d74cbbe1c6"},
		{63, "dcb6b07bc6dc2bc0095962ee05ccce1905972d78956e7118b050166e21d7262eea5924bcef9b3efc50ec39e6cae5edf759e9979d7bffb9898356e3a76b83ab"},
		{64, "f32577a3172f56657d531faaa43077bb8c9726ada7bb04dd337ec5a65454abff241ad6b87a72440e5127c6f9caa70327f2a699096e52d163eb52d9cd99620593"},
		{65, "77baa447fe6f777c9bcb519545ce80badaf08ecb973fbb4ff45af7d8b569ec7caad65f72669d05153cdeaa563a162bb5ae4c42214551593816008dc560c5a65391"},
		{96, "41b5590d909a09f99c2c5475f782ba721397c7dc626736a3b5b0b369bab78af24a800ffd07bd9b94e073fe5451b20caf770b68afe0839842b4723550bdf083cf9e205e5304aaec1584f10008285f563252fcfcf207ca8c755d1652168b9024af"},
		{97, "c82ccb541fdbecd1ce8090f61f39905cbf4bc03cebd133a002c7babe4ea204fba111552004c5a5338c62d4c7561af5de2665d24d30de9407b9ba1a6ab372054d3e6fdd0c7aa46b48980189af43f3502d68d007a02b1c4efe04c13b9f39d932f335"},
		{128, "e03f682135fde8cb7caea3c8ad7c0a7e78efb026e119732d27b1eea7ba92335a7eb8825c755809add7833e7f75e7a5915bb1b3e70eca7b61bec34cd8c486f8005b05f94166103045f120f568fa1952f24e2a032a35d96e5a61fe520090178a4b60490d839f773b71f88589442d94bf5614c401e1a49b7d4d6e34782c0130e1c2"},
		{129, "81795998330577749c80da69a830b48e222555c721afd94d76dd0f9f2f6c6d18a441f42634e58d17da51d9979ae5638530dbe5db52b33bf8b3f4c3bfdd00287d055c3c4ac752f4996544c83253ee7a663a3c42b8e547d1f0a83bb34eb93aa12215687105cf925cd8d26b794b9ba4eefb3a1eea534a48be42894ddd5de35f354e4c"},
	} {
		if s := digits(made(t, c.size, "abc")); s != c.sum {
			t.Errorf("%d: %s, not %s", c.size, s, c.sum)
		}
	}
}

// TestKnownDigests: greater sums of another BLAKE2b, by their digests.
func TestKnownDigests(t *testing.T) {
	for _, c := range []struct {
		size         int
		text, digest string
	}{
		{1, "", "4f362f9093bb8e7012f466224ff1237c0746d8c8f660b16699f5036ccba9c64a"},
		{4, "", "abf824c3ec3ec382ccace1b0501009f8387771c6c4b322586d02c166225ddfbf"},
		{64, "", "46f9386ac5a79e3d5402d9967e1bc0cac900eab0e5ede4dd949f0759a6981630"},
		{65, "", "2d097147ee5a2bb41bf087163ff14f13fbb3d921e3324d79daf4c8a8f4f9e243"},
		{72, "", "731afbf019a72f28eb2fa475a82bbdfd601fedc796321167bb51b764de35d984"},
		{96, "", "c1de73d82db291c6d6ef90bd69418068d311d4e34f90a8fc7ea4009a6859c9a4"},
		{97, "", "d0e6542ec86b58c2ba5a50a98803cbb1fe2614630bada6554980991e3f72fc67"},
		{1024, "", "c689949f16ce5d73f2ed571aaa366710bd5f475ea045a7e3ca18a5f0d515df60"},
		{65536, "", "da77b5289827825150ff40f46c83c9785baaa01e31f701761d8593001ce7c1cd"},
		{1023, "abc", "c92120e46bd80cb7f83a0276df0f992e6a8f1ddde216f3b4381b57cf1b717cb7"},
		{1024, "abc", "6492df1f721b3aeb51184792d6408cdea912bd4b74ba8113ae617acbeb874a1d"},
		{1025, "abc", "b8218cefc966adcfaa820c323546870182b50c96ee47f0212dcd5aab5a984f28"},
		{65535, "abc", "f4897ea118cc1d1a6069373a0f9c9d84541072740fb470f2c03946702c406173"},
		{65536, "abc", "d641dbad1f635d4a0ad33d6ae4f39a738169f25071d2ef2ede3116439fecc9cb"},
	} {
		if s := digest(made(t, c.size, c.text)); s != c.digest {
			t.Errorf("%d, %q: %s, not %s", c.size, c.text, s, c.digest)
		}
	}
}

// TestKnownRow: the sums of all sizes from 1 to 1,100, one behind the other, of another BLAKE2b.
func TestKnownRow(t *testing.T) {
	var all strings.Builder
	for size := 1; size <= 1100; size++ {
		all.WriteString(made(t, size, "abc"))
	}
	if s := digest(all.String()); s != "7df3ff47aa81c46f30fa750c89b5696d27f5577686dd7015cf4fbaca4677f980" {
		t.Error(s)
	}
}

func TestLong(t *testing.T) {
	for _, size := range sizes() {
		for _, all := range []string{"", "abc", text(200)} {
			want, _ := plain(t, size, all)
			if s := made(t, size, all); s != want {
				t.Errorf("%d, %d bytes: %x, not %x", size, len(all), s, want)
			}
		}
	}
}

// TestLongOfLengths: texts of all lengths about the ends of blake's blocks, four bytes of which the size takes.
func TestLongOfLengths(t *testing.T) {
	for n := range 270 {
		for _, size := range []int{20, 64, 100} {
			want, _ := plain(t, size, text(n))
			if s := made(t, size, text(n)); s != want {
				t.Errorf("%d, %d bytes: %x, not %x", size, n, s, want)
			}
		}
	}
}

// TestSizeCounts: no sum begins as the next longer one, nor as a sum of the parts alone.
func TestSizeCounts(t *testing.T) {
	for size := 8; size <= 300; size++ {
		s := made(t, size, "abc")
		if strings.HasPrefix(made(t, size+1, "abc"), s[:8]) {
			t.Errorf("%d begins as the next one", size)
		}
		if strings.HasPrefix(sum(t, min(size, 64), "abc"), s[:8]) {
			t.Errorf("%d begins as a sum without the size", size)
		}
	}
}

// TestRefused: whatever the parts, a size that may not be has no sum.
func TestRefused(t *testing.T) {
	for _, size := range refused() {
		for _, parts := range [][]string{nil, {}, {""}, {"abc"}, {text(100), text(200)}} {
			if s, e := long.Long(size, parts...); s != "" || e != api.ErrArg {
				t.Errorf("%d, %d parts: %d bytes, %d", size, len(parts), len(s), e)
			}
		}
	}
}

func TestOfNothing(t *testing.T) {
	for _, size := range []int{1, 64, 65, 1024} {
		want, _ := plain(t, size, "")
		for _, s := range []string{made(t, size), made(t, size, ""), made(t, size, "", "", ""), made(t, size, []string{}...)} {
			if s != want {
				t.Errorf("%d: %x, not %x", size, s, want)
			}
		}
	}
}

// TestParts: however a text is parted, its sum is the same; the parts come in their order.
func TestParts(t *testing.T) {
	r := rand.New(rand.NewSource(81))
	for range 300 {
		size, all := 1+r.Intn(400), text(r.Intn(400))
		parts, rest := []string{""}, all
		for rest != "" {
			n := r.Intn(len(rest) + 1)
			parts, rest = append(parts, rest[:n]), rest[n:]
		}
		want, _ := plain(t, size, all)
		if s := made(t, size, parts...); s != want {
			t.Errorf("%d, %d bytes in %d parts: %x, not %x", size, len(all), len(parts), s, want)
		}
	}
	if made(t, 70, "ab", "c") == made(t, 70, "c", "ab") {
		t.Error("the order of parts does not count")
	}
}

// TestPartsStay: the parts are as they were, and what lies behind their list's length does not come.
func TestPartsStay(t *testing.T) {
	l := []string{"ab", "c", "behind"}
	for _, size := range []int{64, 100, 1024} {
		want, _ := plain(t, size, "abc")
		if s := made(t, size, l[:2]...); s != want {
			t.Errorf("%d: %x, not %x", size, s, want)
		}
	}
	if long.Block(l[:2]...) != long.Block("abc") {
		t.Error("Block takes more than the list")
	}
	if !slices.Equal(l, []string{"ab", "c", "behind"}) {
		t.Errorf("%q", l)
	}
}

// TestAgain: what was asked for ahead does not count.
func TestAgain(t *testing.T) {
	for _, size := range []int{3, 64, 65, 1024} {
		s := made(t, size, "abc")
		long.Long(0, "abc")
		long.Block(text(300))
		made(t, size, "abcd")
		if made(t, size, "abc") != s {
			t.Errorf("%d is another one", size)
		}
	}
}

// P8.2

func TestHalves(t *testing.T) {
	for _, c := range []struct{ size, halves int }{
		{1, 0}, {31, 0}, {32, 0}, {33, 0}, {63, 0}, {64, 0}, {65, 1}, {95, 1}, {96, 1}, {97, 2}, {128, 2}, {129, 3}, {1023, 30}, {1024, 30}, {1025, 31}, {65504, 2045}, {65505, 2046}, {65535, 2046}, {65536, 2046},
	} {
		if n, e := long.Halves(c.size); n != c.halves || e != api.OK {
			t.Errorf("%d: %d, %d, not %d", c.size, n, e, c.halves)
		}
	}
}

// TestHalvesOfAll: each size that may be, counted as long as more than 64 bytes are lacking.
func TestHalvesOfAll(t *testing.T) {
	for size := 1; size <= api.MaxLong; size++ {
		want := 0
		for lacking := size; lacking > 64; lacking -= 32 {
			want++
		}
		if n, e := long.Halves(size); n != want || e != api.OK {
			t.Errorf("%d: %d, %d, not %d", size, n, e, want)
		}
	}
}

func TestHalvesAreThoseOfLong(t *testing.T) {
	for _, size := range sizes() {
		_, want := plain(t, size, "abc")
		if n, e := long.Halves(size); n != want || e != api.OK {
			t.Errorf("%d: %d, %d, not %d", size, n, e, want)
		}
	}
}

func TestHalvesRefused(t *testing.T) {
	for _, size := range refused() {
		if n, e := long.Halves(size); n != 0 || e != api.ErrArg {
			t.Errorf("%d: %d, %d", size, n, e)
		}
	}
}

func TestBlock(t *testing.T) {
	for _, parts := range [][]string{nil, {}, {""}, {"abc"}, {"ab", "", "c"}, {text(64), little(1), little(2)}, {text(5000)}} {
		want, _ := plain(t, 1024, strings.Join(parts, ""))
		if s := long.Block(parts...); s != want || s != made(t, 1024, parts...) || len(s) != 1024 {
			t.Errorf("%d parts: %x, not %x", len(parts), s, want)
		}
	}
}

// start is the 64 bytes that RFC 9106's examples begin with.
func start(t *testing.T, kind int) string {
	t.Helper()
	all := little(4) + little(32) + little(32) + little(3) + little(19) + little(kind)
	for _, s := range []string{strings.Repeat("\x01", 32), strings.Repeat("\x02", 16), strings.Repeat("\x03", 8), strings.Repeat("\x04", 12)} {
		all += little(len(s)) + s
	}
	return sum(t, 64, all)
}

// TestBlockOfArgon2: the first words of the first block in the examples of RFC 9106, of Argon2d, Argon2i and Argon2id.
func TestBlockOfArgon2(t *testing.T) {
	for kind, want := range []string{"db2fea6b2c6f5c8a 719413be00f82634 a1e3f6dd42aa25cc 3ea8efd4d55ac0d1", "f8f9e84545db08f6 9b073a5c87aa2d97 d1e868d75ca8d8e4 349634174e1aebcc", "6b2e09f10671bd43 f69f5c27918a21be dea7810ea41290e1 6787f7171870f893"} {
		s, l := long.Block(start(t, kind), little(0), little(0)), []string{}
		for i := range 4 {
			l = append(l, digits(string(binary.BigEndian.AppendUint64(nil, binary.LittleEndian.Uint64([]byte(s[8*i:]))))))
		}
		if got := strings.Join(l, " "); got != want {
			t.Errorf("kind %d: %s, not %s", kind, got, want)
		}
	}
}

// P8.3

// TestLengths: as many bytes as were asked for, of which there are, beyond 64, Halves times 32 and 33 to 64 more.
func TestLengths(t *testing.T) {
	all := sizes()
	for size := 301; size <= 1500; size++ {
		all = append(all, size)
	}
	for _, size := range all {
		if s := made(t, size, "abc"); len(s) != size {
			t.Errorf("%d: %d bytes", size, len(s))
		}
	}
	for size := 65; size <= api.MaxLong; size++ {
		n, _ := long.Halves(size)
		if last := size - 32*n; last < 33 || last > 64 {
			t.Errorf("%d: %d bytes behind %d halves", size, last, n)
		}
	}
}

// TestLast: what is put out last is one sum, whole, of the one that the half ahead of it is of.
func TestLast(t *testing.T) {
	for _, size := range []int{65, 96, 97, 128, 129, 1024, 65535} {
		n, _ := long.Halves(size)
		s := made(t, size, "abc")
		v := sum(t, 64, little(size)+"abc")
		for i := range n {
			if s[32*i:32*i+32] != v[:32] {
				t.Errorf("%d: half %d is %x, not %x", size, i, s[32*i:32*i+32], v[:32])
			}
			v = sum(t, min(size-32*(i+1), 64), v)
		}
		if s[32*n:] != v {
			t.Errorf("%d: the last ones are %x, not %x", size, s[32*n:], v)
		}
	}
}
