package blend_test

import (
	"encoding/binary"
	"encoding/hex"
	"math"
	"math/big"
	"math/bits"
	"math/rand"
	"slices"
	"strings"
	"testing"

	"pestle/api"
	"pestle/blake"
	"pestle/blend"
	"pestle/long"
)

// edges are words at which sums and products wrap around, bits stand alone, or one half alone counts.
func edges() []uint64 {
	l := []uint64{0, 2, 3, 0x7fffffff, 0x80000001, 0xfffffffe, 0xffffffff, 0x100000001, 0xfffffffe00000001, 0xffffffff00000000, 0x7fffffffffffffff, 0x8000000000000001, math.MaxUint64 - 1, math.MaxUint64, 0x0102030405060708, 0xaaaaaaaaaaaaaaaa, 0x5555555555555555}
	for i := range 64 {
		l = append(l, 1<<i)
	}
	return l
}

// wide is a number without a bound.
func wide(x uint64) *big.Int { return new(big.Int).SetUint64(x) }

// narrow is a number modulo 2^64.
func narrow(x *big.Int) uint64 {
	return new(big.Int).And(x, wide(math.MaxUint64)).Uint64()
}

// product is the product of two words, reckoned without a bound.
func product(a, b uint64) uint64 {
	half := new(big.Int).Lsh(big.NewInt(1), 32)
	lower := func(x uint64) *big.Int { return new(big.Int).Mod(wide(x), half) }
	p := new(big.Int).Mul(lower(a), lower(b))
	p.Mul(p, big.NewInt(2))
	return narrow(p.Add(p, wide(a)).Add(p, wide(b)))
}

// turned is both words put together, then turned to the right, by a text of their bits.
func turned(x, y uint64, n int) uint64 {
	text := make([]byte, 64)
	for i := range text {
		text[i] = byte((x^y)>>(63-i)&1) + '0'
	}
	z, _ := new(big.Int).SetString(string(text[64-n:])+string(text[:64-n]), 2)
	return z.Uint64()
}

// slow is Quarter, by numbers without bounds and texts of bits.
func slow(q [4]uint64) [4]uint64 {
	a, b, c, d := q[0], q[1], q[2], q[3]
	for _, by := range [][2]int{{32, 24}, {16, 63}} {
		a = product(a, b)
		d = turned(d, a, by[0])
		c = product(c, d)
		b = turned(b, c, by[1])
	}
	return [4]uint64{a, b, c, d}
}

// quarter is Quarter by the machine's words; TestQuick holds it against slow.
func quarter(q [4]uint64) [4]uint64 {
	for _, by := range [][2]int{{32, 24}, {16, 63}} {
		q[0] += q[1] + uint64(uint32(q[0]))*uint64(uint32(q[1]))<<1
		q[3] = bits.RotateLeft64(q[3]^q[0], 64-by[0])
		q[2] += q[3] + uint64(uint32(q[2]))*uint64(uint32(q[3]))<<1
		q[1] = bits.RotateLeft64(q[1]^q[2], 64-by[1])
	}
	return q
}

// square is sixteen words as four rows of four.
type square [4][4]uint64

// columns has the four columns mixed.
func (s square) columns() square {
	for i := range 4 {
		q := quarter([4]uint64{s[0][i], s[1][i], s[2][i], s[3][i]})
		for k := range q {
			s[k][i] = q[k]
		}
	}
	return s
}

// shifted has row k moved to the left by k times so many places, round and round.
func (s square) shifted(by int) square {
	var m square
	for k := range s {
		for i := range s[k] {
			m[k][i] = s[k][(i+k*by)%4]
		}
	}
	return m
}

// permuted is Permute, as the rounds of BLAKE2b are often told: columns, then rows shifted and shifted back.
func permuted(v [16]uint64) [16]uint64 {
	var s square
	for i, w := range v {
		s[i/4][i%4] = w
	}
	s = s.columns().shifted(1).columns().shifted(3)
	for i := range v {
		v[i] = s[i/4][i%4]
	}
	return v
}

// matrix is a block as RFC 9106 views it: eight by eight registers of 16 bytes.
type matrix [8][8][2]uint64

// rowwise has each row permuted.
func (m matrix) rowwise() matrix {
	for i := range m {
		var v [16]uint64
		for k := range v {
			v[k] = m[i][k/2][k%2]
		}
		for k, w := range permuted(v) {
			m[i][k/2][k%2] = w
		}
	}
	return m
}

// mirrored has each column as a row.
func (m matrix) mirrored() matrix {
	var x matrix
	for i := range m {
		for k := range m[i] {
			x[k][i] = m[i][k]
		}
	}
	return x
}

// whole is Whole: rows, then the mirrored block's.
func whole(b api.Block) api.Block {
	var m matrix
	for i, w := range b {
		m[i/16][i%16/2][i%2] = w
	}
	m = m.rowwise().mirrored().rowwise().mirrored()
	for i := range b {
		b[i] = m[i/16][i%16/2][i%2]
	}
	return b
}

// together is blocks put together by exclusive or.
func together(l ...api.Block) api.Block {
	var x api.Block
	for i := range x {
		for k := range l {
			x[i] = x[i]&^l[k][i] | l[k][i]&^x[i]
		}
	}
	return x
}

// mixed is Mix.
func mixed(x, y api.Block) api.Block {
	r := together(x, y)
	return together(whole(r), r)
}

// chance is a block of any words.
func chance(r *rand.Rand) api.Block {
	var b api.Block
	for i := range b {
		b[i] = r.Uint64()
	}
	return b
}

// some are blocks with a word alone at each place, all words alike, all unlike, and many of any kind, the same in each run.
func some() []api.Block {
	r := rand.New(rand.NewSource(2801))
	l := []api.Block{{}}
	for i := range api.BlockSize / 8 {
		for _, w := range []uint64{1, 1 << 31, 1 << 63, math.MaxUint64} {
			var b api.Block
			b[i] = w
			l = append(l, b)
		}
	}
	for _, w := range edges() {
		var alike, unlike api.Block
		for i := range alike {
			alike[i] = w
			unlike[i] = w * uint64(i+1)
		}
		l = append(l, alike, unlike)
	}
	for range 100 {
		l = append(l, chance(r))
	}
	return l
}

// P28.1

// quarterIs tells of four words that are mixed to others than are wanted.
func quarterIs(t *testing.T, in, want [4]uint64) {
	t.Helper()
	if a, b, c, d := blend.Quarter(in[0], in[1], in[2], in[3]); [4]uint64{a, b, c, d} != want {
		t.Fatalf("Quarter(%x): %x, %x, %x, %x, not %x", in, a, b, c, d, want)
	}
}

// TestQuarterKnown: words that were reckoned by hand.
func TestQuarterKnown(t *testing.T) {
	quarterIs(t, [4]uint64{}, [4]uint64{})
	// a 1, d 2^32, c 2^32, b 2^8; a 1 + 256 + 512, d 301 0001 0000 0000 behind the turn by 16, and so on
	quarterIs(t, [4]uint64{1, 0, 0, 0}, [4]uint64{769, 0x0602000200020200, 0x0301000100010000, 0x0301000000010000})
	// d 2^63, turned by 32, is 2^31; c 2^31; b 2^31, turned by 24, is 2^7; a 2^7; d 2^31 + 2^7, turned by 16, is 2^15 + 2^55; c 2^31 + 2^15 + 2^55, and twice 2^31 times 2^15; b those and 2^7, turned by one to the left
	d := uint64(1<<15 + 1<<55)
	c := uint64(1<<31+1<<15+1<<55) + 1<<47
	quarterIs(t, [4]uint64{0, 0, 0, 1 << 63}, [4]uint64{1 << 7, (c ^ 1<<7) << 1, c, d})
}

// TestQuarter: each word at each place beside others, and words of any kind.
func TestQuarter(t *testing.T) {
	r := rand.New(rand.NewSource(2802))
	for _, w := range edges() {
		for i := range 4 {
			for _, rest := range []uint64{0, 1, math.MaxUint32, 1 << 32, math.MaxUint64, r.Uint64()} {
				in := [4]uint64{rest, rest, rest, rest}
				in[i] = w
				quarterIs(t, in, slow(in))
			}
		}
		quarterIs(t, [4]uint64{w, w, w, w}, slow([4]uint64{w, w, w, w}))
	}
	for range 3000 {
		in := [4]uint64{r.Uint64(), r.Uint64(), r.Uint64(), r.Uint64()}
		quarterIs(t, in, slow(in))
	}
}

// TestQuarterOfTwo: all pairs of edges, in each pair of places that a product is made of.
func TestQuarterOfTwo(t *testing.T) {
	for _, x := range edges() {
		for _, y := range edges() {
			for _, in := range [][4]uint64{{x, y, 0, 0}, {0, 0, x, y}} {
				quarterIs(t, in, slow(in))
			}
		}
	}
}

// TestQuick holds the tests' own quick way against the slow one.
func TestQuick(t *testing.T) {
	r := rand.New(rand.NewSource(2803))
	for _, x := range edges() {
		for _, y := range edges() {
			in := [4]uint64{x, y, r.Uint64(), y}
			if quarter(in) != slow(in) {
				t.Fatalf("%x: %x, not %x", in, quarter(in), slow(in))
			}
		}
	}
}

// P28.2

// permuteIs tells of sixteen words that are mixed to others than are wanted.
func permuteIs(t *testing.T, in, want [16]uint64) {
	t.Helper()
	kept := in
	if got := blend.Permute(in); got != want || in != kept {
		t.Fatalf("Permute(%x): %x, not %x", kept, got, want)
	}
}

func TestPermute(t *testing.T) {
	r := rand.New(rand.NewSource(2804))
	permuteIs(t, [16]uint64{}, [16]uint64{})
	for _, w := range edges() {
		var alike, unlike [16]uint64
		for i := range alike {
			alike[i] = w
			unlike[i] = w * uint64(2*i+1)
			var alone [16]uint64
			alone[i] = w
			permuteIs(t, alone, permuted(alone))
		}
		permuteIs(t, alike, permuted(alike))
		permuteIs(t, unlike, permuted(unlike))
	}
	for range 1000 {
		var v [16]uint64
		for i := range v {
			v[i] = r.Uint64()
		}
		permuteIs(t, v, permuted(v))
	}
}

// TestPermuteSteps: the document's own steps, by Quarter.
func TestPermuteSteps(t *testing.T) {
	r := rand.New(rand.NewSource(2805))
	for range 100 {
		var in [16]uint64
		for i := range in {
			in[i] = r.Uint64()
		}
		v := in
		for _, places := range []string{"048c", "159d", "26ae", "37bf", "05af", "16bc", "278d", "349e"} {
			var at [4]int
			for i := range at {
				at[i] = strings.IndexByte("0123456789abcdef", places[i])
			}
			v[at[0]], v[at[1]], v[at[2]], v[at[3]] = blend.Quarter(v[at[0]], v[at[1]], v[at[2]], v[at[3]])
		}
		permuteIs(t, in, v)
	}
}

// P28.3

func TestWhole(t *testing.T) {
	for _, b := range some() {
		kept := b
		if got := blend.Whole(b); got != whole(b) || b != kept {
			t.Fatalf("Whole(%x): %x, not %x", kept, got, whole(kept))
		}
	}
}

// TestWholeSteps: the document's own steps, by Permute, of places that are written out.
func TestWholeSteps(t *testing.T) {
	r := rand.New(rand.NewSource(2806))
	var lines [][16]int
	for i := range 8 {
		var l [16]int
		for k := range l {
			l[k] = 16*i + k
		}
		lines = append(lines, l)
	}
	for i := range 8 {
		lines = append(lines, [16]int{2 * i, 2*i + 1, 2*i + 16, 2*i + 17, 2*i + 32, 2*i + 33, 2*i + 48, 2*i + 49, 2*i + 64, 2*i + 65, 2*i + 80, 2*i + 81, 2*i + 96, 2*i + 97, 2*i + 112, 2*i + 113})
	}
	for range 100 {
		b := chance(r)
		want := b
		for _, l := range lines {
			var v [16]uint64
			for k, at := range l {
				v[k] = want[at]
			}
			for k, w := range blend.Permute(v) {
				want[l[k]] = w
			}
		}
		if got := blend.Whole(b); got != want {
			t.Fatalf("%x, not %x", got, want)
		}
	}
}

// TestWholeHangs: each word of a block is changed by a bit of any other one.
func TestWholeHangs(t *testing.T) {
	b := chance(rand.New(rand.NewSource(2807)))
	first := blend.Whole(b)
	for i := range b {
		other := b
		other[i] ^= 1 << 5
		second := blend.Whole(other)
		for k := range second {
			if second[k] == first[k] {
				t.Errorf("word %d is changed: word %d stays", i, k)
			}
		}
	}
}

// P28.4

func TestMix(t *testing.T) {
	r := rand.New(rand.NewSource(2808))
	for _, x := range some() {
		for _, y := range []api.Block{{}, x, chance(r)} {
			kept := [2]api.Block{x, y}
			if got := blend.Mix(x, y); got != mixed(x, y) || kept != [2]api.Block{x, y} {
				t.Fatalf("Mix(%x, %x): %x, not %x", x, y, got, mixed(x, y))
			}
		}
	}
}

// overIs tells of two blocks that are mixed and put over others to another one than is wanted.
func overIs(t *testing.T, x, y api.Block, others ...api.Block) {
	t.Helper()
	kept := slices.Clone(others)
	want := together(append([]api.Block{mixed(x, y)}, others...)...)
	if got := blend.Over(x, y, others...); got != want {
		t.Fatalf("of %d others: %x, not %x", len(others), got, want)
	}
	if !slices.Equal(others, kept) {
		t.Fatalf("%d others are changed", len(others))
	}
}

func TestOver(t *testing.T) {
	r := rand.New(rand.NewSource(2809))
	x, y := chance(r), chance(r)
	overIs(t, x, y, nil...)
	overIs(t, x, y, []api.Block{}...)
	var others []api.Block
	for range 20 {
		overIs(t, x, y, others...)
		overIs(t, x, x, others...)
		overIs(t, api.Block{}, y, others...)
		others = append(others, chance(r))
	}
	overIs(t, x, y, api.Block{})
	overIs(t, x, y, x)
	overIs(t, x, y, x, y)
	overIs(t, x, y, others[0], others[0])
	overIs(t, x, y, mixed(x, y))
	for _, b := range some() {
		overIs(t, b, y, x)
		overIs(t, x, y, b)
	}
}

// TestOverNone: of no others it is Mix; another one twice is as good as none.
func TestOverNone(t *testing.T) {
	r := rand.New(rand.NewSource(2810))
	for range 20 {
		x, y, z := chance(r), chance(r), chance(r)
		m := blend.Mix(x, y)
		for i, got := range []api.Block{blend.Over(x, y), blend.Over(x, y, api.Block{}), blend.Over(x, y, z, z), together(blend.Over(x, y, z), z), blend.Over(y, x)} {
			if got != m {
				t.Errorf("case %d: %x, not %x", i, got, m)
			}
		}
		if blend.Over(x, y, m) != (api.Block{}) || blend.Over(x, x, z) != z || blend.Over(x, y, z) == m {
			t.Error("put over others it is not what both are together")
		}
	}
}

// TestOverLeavesTheOthers: what lies behind a list's length is neither read nor written.
func TestOverLeavesTheOthers(t *testing.T) {
	r := rand.New(rand.NewSource(2811))
	x, y := chance(r), chance(r)
	room := []api.Block{chance(r), chance(r), chance(r), chance(r)}
	kept := slices.Clone(room)
	for n := range len(room) + 1 {
		overIs(t, x, y, room[:n]...)
		if !slices.Equal(room, kept) {
			t.Fatalf("of %d others, blocks behind them are changed", n)
		}
	}
}

// P28.5

func TestMixEitherWay(t *testing.T) {
	r := rand.New(rand.NewSource(2812))
	for _, x := range some() {
		y := chance(r)
		if blend.Mix(x, y) != blend.Mix(y, x) {
			t.Fatalf("%x and %x are mixed to another block the other way round", x, y)
		}
		if blend.Mix(x, x) != (api.Block{}) {
			t.Fatalf("%x with itself is no block 0", x)
		}
		if x != (api.Block{}) && (blend.Mix(x, api.Block{}) == api.Block{} || blend.Mix(x, api.Block{}) == x) {
			t.Fatalf("%x with a block 0 is not mixed", x)
		}
	}
}

// Known answers: keys of RFC 9106, and of other Argon2s, by blocks that are mixed by the calls of this layer.

// memory is Argon2's, filled plainly.
type memory struct {
	kind, passes, lanes, segment int
	blocks                       [][]api.Block
}

// numbers are the two that tell where a block refers to.
func (m *memory) numbers(pass, slice, lane, index int) (uint64, uint64) {
	columns := 4 * m.segment
	if m.kind == 0 || m.kind == 2 && (pass > 0 || slice > 1) {
		w := m.blocks[lane][(slice*m.segment+index+columns-1)%columns][0]
		return w & math.MaxUint32, w >> 32
	}
	var seed, none api.Block
	for i, n := range []int{pass, lane, slice, columns * m.lanes, m.passes, m.kind, index/128 + 1} {
		seed[i] = uint64(n)
	}
	w := blend.Mix(none, blend.Mix(none, seed))[index%128]
	return w & math.MaxUint32, w >> 32
}

// refer is the block that one refers to.
func (m *memory) refer(pass, slice, lane, index int) api.Block {
	columns := 4 * m.segment
	low, high := m.numbers(pass, slice, lane, index)
	of := int(high % uint64(m.lanes))
	if pass == 0 && slice == 0 {
		of = lane
	}
	area := columns - m.segment
	if pass == 0 {
		area = slice * m.segment
	}
	if of == lane {
		area += index - 1
	} else if index == 0 {
		area--
	}
	from := 0
	if pass > 0 {
		from = (slice + 1) % 4 * m.segment
	}
	back := uint64(area) * (low * low >> 32) >> 32
	return m.blocks[of][(from+area-1-int(back))%columns]
}

// fill has all blocks filled behind the first two of each lane.
func (m *memory) fill() {
	columns := 4 * m.segment
	for turn := range 4 * m.passes {
		pass, slice := turn/4, turn%4
		for lane, row := range m.blocks {
			for index := range m.segment {
				at := slice*m.segment + index
				if turn == 0 && index < 2 {
					continue
				}
				before, refer := row[(at+columns-1)%columns], m.refer(pass, slice, lane, index)
				if pass == 0 {
					row[at] = blend.Over(before, refer)
				} else {
					row[at] = blend.Over(before, refer, row[at])
				}
			}
		}
	}
}

// numbered is numbers as bytes, the lowest one of each first.
func numbered(l ...int) string {
	var b []byte
	for _, n := range l {
		b = binary.LittleEndian.AppendUint32(b, uint32(n))
	}
	return string(b)
}

// tag is Argon2's of a kind.
func tag(t *testing.T, kind, passes, size, lanes, bytes int, texts [4]string) string {
	t.Helper()
	parts := []string{numbered(lanes, bytes, size, passes, 19, kind)}
	for _, s := range texts {
		parts = append(parts, numbered(len(s)), s)
	}
	head, e := blake.Of(64, "", parts...)
	if e != api.OK {
		t.Fatal(e)
	}
	m := &memory{kind: kind, passes: passes, lanes: lanes, segment: size / lanes / 4}
	for lane := range lanes {
		row := make([]api.Block, 4*m.segment)
		for k := range 2 {
			for i, b := range slices.Collect(slices.Chunk([]byte(long.Block(head, numbered(k, lane))), 8)) {
				row[k][i] = binary.LittleEndian.Uint64(b)
			}
		}
		m.blocks = append(m.blocks, row)
	}
	m.fill()
	var last []byte
	var ends []api.Block
	for _, row := range m.blocks {
		ends = append(ends, row[len(row)-1])
	}
	for _, w := range together(ends...) {
		last = binary.LittleEndian.AppendUint64(last, w)
	}
	s, e := long.Long(bytes, string(last))
	if e != api.OK {
		t.Fatal(e)
	}
	return hex.EncodeToString([]byte(s))
}

// TestKnownOfTheRFC: the examples of RFC 9106.
func TestKnownOfTheRFC(t *testing.T) {
	texts := [4]string{strings.Repeat("\x01", 32), strings.Repeat("\x02", 16), strings.Repeat("\x03", 8), strings.Repeat("\x04", 12)}
	for kind, want := range []string{
		"512b391b6f1162975371d30919734294f868e3be3984f3c1a13a4db9fabe4acb",
		"c814d9d1dc7f37aa13f0d77f2494bda1c8de6b016dd388d29952a4c4672b6ce8",
		"0d640df58d78766c08c037a34a8b53c9d01ef0452d75b65eb52520e96b01e659",
	} {
		if got := tag(t, kind, 3, 32, 4, 32, texts); got != want {
			t.Errorf("kind %d: %s, not %s", kind, got, want)
		}
	}
}

// TestKnown: tags of two other Argon2s, from the least memory on.
func TestKnown(t *testing.T) {
	for _, c := range []struct {
		kind, passes, size, lanes int
		want                      string
	}{
		{0, 1, 8, 1, "c519e603ac603ec1aeb5b71ec44a6179e3f3975b14c0c97e3914c79e6363e178"},
		{1, 1, 8, 1, "cbf2bce47e6d23999626143fabc5db69164743ee000ddd3f8895a6f82cfb9a6e"},
		{2, 1, 8, 1, "f137f8e186a403a679ccd0606e5ab5dcdafe43c1640855ac8c6e33e9bd63eeb3"},
		{0, 2, 16, 2, "59f20a66a4c31bf0438a2f494867c32120409a91380f0687aefee984ba86bda8"},
		{2, 2, 16, 2, "747d7631b182faf749d7efc31aec31df4ecfe3b57c792f53800ac2c9978b4888"},
		{0, 3, 100, 3, "f767c942db6c971938c4f3e8d81e53a743aa8accc88708a2"},
		{1, 3, 100, 3, "95bb09364bd584ec2f85a1a14f6a72118b4b2909ba83ca62"},
		{2, 3, 100, 3, "f0ed0b8f5f13cbe9833bbde9e7f25c217b0ce7fb60a532a3"},
		{0, 5, 64, 8, "2592e5df5c16f02df2839adefe5b71b295fb3e45d536f697b31177ade725f523"},
		{1, 5, 64, 8, "b5656a6c8d8a360411f5160205d26cdfa00caec5b7d60f57c4328a20d13cc4ed"},
		{0, 2, 4096, 4, "9e0b7cb9e7f2aa22e0a9eab6869e3cff"},
		{2, 2, 4096, 4, "8c5fa56b4c434c275d2960b846371738"},
		{0, 1, 1024, 1, "66da1285b4b405f6d4bbfea8400e88b1a3fdb081f335782ba80d6c4410f10bc2ab420eed87db15a72231f78821511445f6e0c5f68de3482f143c6acee23887d5"},
		{1, 1, 1024, 1, "62a4cb65c257551be4c2c22efba26b3317e4d912e004dcc20481fee0eb9b014b1aedacb695c4c3a18cb9b561e33dec764adad1a7d5b8451e06a669169af035ba"},
		{2, 1, 1024, 1, "fa5999c42a786351067cf8a547a55ad73f50a56475f3a621c030ec016a1c70d3ca513a2681068b7fee878f6f9cd7ef04130ffcdf1c44aaded4bc185a550c18c5"},
		{0, 4, 777, 5, "96bef576ce3051b14ef3aa1ec085f891b13ffa0aa27e28394e870bf17527c8d143826a3749eff39f343403fe6d47b810ca13a84f6a4f71392483dc2557aac0ed344a9ac345db850d250f940e1c3cb359ce0995ef33acf37601bdbee32fca5968507c32e7"},
		{2, 4, 777, 5, "02238e1a69ec27c01a4dba26e30e278bb5690bc4cedddcc71e0f453ac1e06d34e5e180ffe615c87b06a9844158e53c464abaaf464acb75b0350bc3beca8008fab5a0787f65d05c601bdacc2d7500d9cb3d4c78d52e848e873ba7970ea9b06baad88438e2"},
	} {
		if got := tag(t, c.kind, c.passes, c.size, c.lanes, len(c.want)/2, [4]string{"password", "somesalt"}); got != c.want {
			t.Errorf("%+v: %s", c, got)
		}
	}
}

// TestSameAgain: what was mixed ahead is not kept.
func TestSameAgain(t *testing.T) {
	r := rand.New(rand.NewSource(2813))
	x, y, z := chance(r), chance(r), chance(r)
	first := blend.Over(x, y, z)
	kept := first
	blend.Over(y, z, x)
	blend.Whole(first)
	if again := blend.Over(x, y, z); again != kept || first != kept {
		t.Error("another block the second time")
	}
}
