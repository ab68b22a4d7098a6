package argon_test

import (
	"bytes"
	"crypto/sha256"
	"encoding/binary"
	"encoding/hex"
	"fmt"
	"math"
	"math/big"
	"math/bits"
	"math/rand"
	"strings"
	"sync"
	"testing"

	"pestle/api"
	"pestle/arena"
	"pestle/argon"
	"pestle/fill"
	"pestle/grid"
	"pestle/place"
	"pestle/shape"
)

// costs are parameters.
func costs(alg, time, memory, lanes, size int) api.Params {
	return api.Params{Alg: alg, Time: time, Memory: memory, Lanes: lanes, Size: size}
}

// rfc are the inputs of RFC 9106's examples.
func rfc() api.Input {
	return api.Input{Word: strings.Repeat("\x01", 32), Salt: strings.Repeat("\x02", 16), Secret: strings.Repeat("\x03", 8), Data: strings.Repeat("\x04", 12)}
}

// inputs are a password and a salt alone.
func inputs(word, salt string) api.Input { return api.Input{Word: word, Salt: salt} }

// ruled is a text of so many bytes, by a rule that another Argon2 was handed, too.
func ruled(n, kind int) string {
	b := make([]byte, n)
	for i := range b {
		b[i] = byte(i*7 + n*31 + kind*97 + i/251)
	}
	return string(b)
}

// long are inputs of so many bytes.
func long(word, salt, secret, data int) api.Input {
	return api.Input{Word: ruled(word, 0), Salt: ruled(salt, 1), Secret: ruled(secret, 2), Data: ruled(data, 3)}
}

// digest is SHA-256's sum of a text, in digits, by which long ones are told apart.
func digest(s string) string {
	b := sha256.Sum256([]byte(s))
	return hex.EncodeToString(b[:])
}

// budget is an arena of so many blocks.
func budget(t *testing.T, n int) *arena.Arena {
	t.Helper()
	a, e := arena.New(n)
	if e != api.OK {
		t.Fatal(n, e)
	}
	return a
}

// Argon2 as RFC 9106 has it, from BLAKE2b on: no part of it is the program's.

// initial is the state that BLAKE2b begins with.
func initial() [8]uint64 {
	return [8]uint64{0x6a09e667f3bcc908, 0xbb67ae8584caa73b, 0x3c6ef372fe94f82b, 0xa54ff53a5f1d36f1, 0x510e527fade682d1, 0x9b05688c2b3e6c1f, 0x1f83d9abfb41bd6b, 0x5be0cd19137e2179}
}

// orders are those in which the rounds take a block's words.
func orders() [10][16]int {
	return [10][16]int{
		{0, 1, 2, 3, 4, 5, 6, 7, 8, 9, 10, 11, 12, 13, 14, 15},
		{14, 10, 4, 8, 9, 15, 13, 6, 1, 12, 0, 2, 11, 7, 5, 3},
		{11, 8, 12, 0, 5, 2, 15, 13, 10, 14, 3, 6, 7, 1, 9, 4},
		{7, 9, 3, 1, 13, 12, 11, 14, 2, 6, 5, 10, 4, 0, 15, 8},
		{9, 0, 5, 7, 2, 4, 10, 15, 14, 1, 11, 12, 6, 8, 3, 13},
		{2, 12, 6, 10, 0, 11, 8, 3, 4, 13, 7, 5, 15, 14, 1, 9},
		{12, 5, 1, 15, 14, 13, 4, 10, 0, 7, 6, 3, 9, 2, 8, 11},
		{13, 11, 7, 14, 12, 1, 3, 9, 5, 0, 15, 4, 8, 6, 2, 10},
		{6, 15, 14, 9, 11, 3, 0, 8, 12, 2, 13, 7, 1, 4, 10, 5},
		{10, 2, 8, 4, 7, 6, 1, 5, 15, 11, 9, 14, 3, 12, 13, 0},
	}
}

// blake is BLAKE2b's sum of n bytes, without a key.
func blake(n int, text string) string {
	h := initial()
	h[0] ^= 0x01010000 ^ uint64(n)
	blocks := max(1, (len(text)+127)/128)
	padded := append([]byte(text), make([]byte, 128*blocks-len(text))...)
	for k := range blocks {
		var m [16]uint64
		for i := range m {
			m[i] = binary.LittleEndian.Uint64(padded[128*k+8*i:])
		}
		last := k == blocks-1
		end := uint64(128 * (k + 1))
		if last {
			end = uint64(len(text))
		}
		compress(&h, m, end, last)
	}
	var out []byte
	for _, w := range h {
		out = binary.LittleEndian.AppendUint64(out, w)
	}
	return string(out[:n])
}

// compress is BLAKE2b's.
func compress(h *[8]uint64, m [16]uint64, end uint64, last bool) {
	var v [16]uint64
	first := initial()
	copy(v[:], h[:])
	copy(v[8:], first[:])
	v[12] ^= end
	if last {
		v[14] = ^v[14]
	}
	s := orders()
	for round := range 12 {
		o := s[round%10]
		step := func(i, a, b, c, d int) {
			v[a] += v[b] + m[o[2*i]]
			v[d] = bits.RotateLeft64(v[d]^v[a], -32)
			v[c] += v[d]
			v[b] = bits.RotateLeft64(v[b]^v[c], -24)
			v[a] += v[b] + m[o[2*i+1]]
			v[d] = bits.RotateLeft64(v[d]^v[a], -16)
			v[c] += v[d]
			v[b] = bits.RotateLeft64(v[b]^v[c], -63)
		}
		for i := range 4 {
			step(i, i, i+4, i+8, i+12)
		}
		for i := range 4 {
			step(i+4, i, 4+(i+1)%4, 8+(i+2)%4, 12+(i+3)%4)
		}
	}
	for i := range h {
		h[i] ^= v[i] ^ v[i+8]
	}
}

// le is numbers of 32 bits, the lowest byte of each first.
func le(l ...int) string {
	var b []byte
	for _, n := range l {
		b = binary.LittleEndian.AppendUint32(b, uint32(n))
	}
	return string(b)
}

// wide is a sum of n bytes: RFC 9106's H'.
func wide(n int, text string) string {
	text = le(n) + text
	if n <= 64 {
		return blake(n, text)
	}
	v := blake(64, text)
	out := v[:32]
	for n-len(out) > 64 {
		v = blake(64, v)
		out += v[:32]
	}
	return out + blake(n-len(out), v)
}

// headOf is the 64 bytes that Argon2 begins with: RFC 9106's H0.
func headOf(p api.Params, in api.Input) string {
	kind := map[int]int{api.Argon2d: 0, api.Argon2i: 1, api.Argon2id: 2}[p.Alg]
	all := le(p.Lanes, p.Size, p.Memory, p.Time, 0x13, kind)
	for _, text := range []string{in.Word, in.Salt, in.Secret, in.Data} {
		all += le(len(text)) + text
	}
	return blake(64, all)
}

// memory is Argon2's, lane by lane.
type memory struct {
	p    api.Params
	rows [][]api.Block
}

// blocksOf is how many blocks the memory has.
func blocksOf(p api.Params) int { return p.Memory / (4 * p.Lanes) * (4 * p.Lanes) }

// blockOf is the block that 1,024 bytes are.
func blockOf(text string) api.Block {
	var b api.Block
	for k := range b {
		b[k] = binary.LittleEndian.Uint64([]byte(text[8*k:]))
	}
	return b
}

// begun is the memory whose first columns are there.
func begun(p api.Params, in api.Input) *memory {
	m := &memory{p: p, rows: make([][]api.Block, p.Lanes)}
	for lane := range m.rows {
		m.rows[lane] = make([]api.Block, blocksOf(p)/p.Lanes)
		for column := range 2 {
			m.rows[lane][column] = blockOf(wide(1024, headOf(p, in)+le(column, lane)))
		}
	}
	return m
}

// mixed is two blocks mixed: RFC 9106's G.
func mixed(x, y api.Block) api.Block {
	var r api.Block
	for k := range r {
		r[k] = x[k] ^ y[k]
	}
	z := r
	mul := func(a, b uint64) uint64 { return a + b + 2*(a&math.MaxUint32)*(b&math.MaxUint32) }
	quarter := func(a, b, c, d *uint64) {
		*a = mul(*a, *b)
		*d = bits.RotateLeft64(*d^*a, -32)
		*c = mul(*c, *d)
		*b = bits.RotateLeft64(*b^*c, -24)
		*a = mul(*a, *b)
		*d = bits.RotateLeft64(*d^*a, -16)
		*c = mul(*c, *d)
		*b = bits.RotateLeft64(*b^*c, -63)
	}
	whole := func(at func(i int) *uint64) {
		for i := range 4 {
			quarter(at(i), at(i+4), at(i+8), at(i+12))
		}
		for i := range 4 {
			quarter(at(i), at(4+(i+1)%4), at(8+(i+2)%4), at(12+(i+3)%4))
		}
	}
	for row := range 8 {
		whole(func(i int) *uint64 { return &z[16*row+i] })
	}
	for column := range 8 {
		whole(func(i int) *uint64 { return &z[16*(i/2)+2*column+i%2] })
	}
	for k := range z {
		z[k] ^= r[k]
	}
	return z
}

// columns are those of a lane that a block of a segment may refer to, the oldest one first.
func (m *memory) columns(pass, slice, index int, own bool) []int {
	all := len(m.rows[0])
	from, to := 0, slice*all/4
	if pass > 0 {
		from, to = (slice+1)*all/4, (slice+4)*all/4
	}
	if own {
		to += index
	}
	if own || index == 0 {
		to--
	}
	var l []int
	for column := from; column < to; column++ {
		l = append(l, column%all)
	}
	return l
}

// one has a block of a segment filled.
func (m *memory) one(pass, slice, lane, index int) {
	all := len(m.rows[0])
	column := slice*all/4 + index
	before := m.rows[lane][(column+all-1)%all]
	w := before[0]
	if m.p.Alg == api.Argon2i || m.p.Alg == api.Argon2id && pass == 0 && slice < 2 {
		seed := api.Block{uint64(pass), uint64(lane), uint64(slice), uint64(blocksOf(m.p)), uint64(m.p.Time), uint64(m.p.Alg - api.Argon2d), uint64(index/128 + 1)}
		w = mixed(api.Block{}, mixed(api.Block{}, seed))[index%128]
	}
	of := int(w >> 32 % uint64(m.p.Lanes))
	if pass == 0 && slice == 0 {
		of = lane
	}
	l := m.columns(pass, slice, index, of == lane)
	j := w & math.MaxUint32
	back := uint64(len(l)) * (j * j >> 32) >> 32
	b := mixed(before, m.rows[of][l[len(l)-1-int(back)]])
	if pass > 0 {
		for k, old := range m.rows[lane][column] {
			b[k] ^= old
		}
	}
	m.rows[lane][column] = b
}

// fill has all blocks filled.
func (m *memory) fill() {
	for pass := range m.p.Time {
		for slice := range 4 {
			for lane := range m.rows {
				for index := range len(m.rows[0]) / 4 {
					if pass > 0 || slice > 0 || index > 1 {
						m.one(pass, slice, lane, index)
					}
				}
			}
		}
	}
}

// tag is what the last columns come to.
func (m *memory) tag() string {
	var b []byte
	for k := range 128 {
		var w uint64
		for _, row := range m.rows {
			w ^= row[len(row)-1][k]
		}
		b = binary.LittleEndian.AppendUint64(b, w)
	}
	return wide(m.p.Size, string(b))
}

// plain is the tag of inputs.
func plain(p api.Params, in api.Input) string {
	m := begun(p, in)
	m.fill()
	return m.tag()
}

// Calls, and what they are to come to

// keyed is a tag by way of an arena that has just as many blocks as are needed; all of them are in use meanwhile, and none behind it.
func keyed(t *testing.T, p api.Params, in api.Input) string {
	t.Helper()
	n := blocksOf(p)
	a := budget(t, n)
	tag, e := argon.Key(a, p, in)
	if len(tag) != p.Size || e != api.OK {
		t.Fatalf("Key of %+v: %d bytes, %d", p, len(tag), e)
	}
	if a.Used() != 0 || a.Lent() != 0 || a.High() != n || a.Budget() != n {
		t.Fatalf("Key of %+v: %d blocks in use, of %d pieces, %d at most", p, a.Used(), a.Lent(), a.High())
	}
	return tag
}

// never is a filler that isn't to be called.
func never(t *testing.T) argon.Filler {
	return func(*grid.Grid) api.Errno {
		t.Helper()
		t.Error("the filler is called")
		return api.ErrTwice
	}
}

// refused tells of a call that isn't refused by just an error, of parameters and inputs that may not be; an arena of no block has none for those that may be.
func refused(t *testing.T, a *arena.Arena, p api.Params, in api.Input, want, without api.Errno) {
	t.Helper()
	for _, c := range []struct {
		a    *arena.Arena
		want api.Errno
	}{{a, want}, {nil, without}} {
		if tag, e := argon.Key(c.a, p, in); tag != "" || e != c.want {
			t.Fatalf("Key of %+v: %q, %d, not %d", p, tag, e, c.want)
		}
		if tag, e := argon.By(c.a, p, in, never(t)); tag != "" || e != c.want {
			t.Fatalf("By of %+v: %q, %d, not %d", p, tag, e, c.want)
		}
	}
	if a.Used() != 0 || a.Lent() != 0 || a.High() != 0 {
		t.Fatalf("%+v: %d blocks in use, of %d pieces, %d at most", p, a.Used(), a.Lent(), a.High())
	}
}

// checks tells of parameters and inputs that one of the calls takes otherwise than it is to.
func checks(t *testing.T, empty *arena.Arena, p api.Params, in api.Input, want api.Errno) {
	t.Helper()
	if e := argon.Check(p, in); e != want {
		t.Fatalf("Check of %+v, %d, %d, %d, %d bytes: %d, not %d", p, len(in.Word), len(in.Salt), len(in.Secret), len(in.Data), e, want)
	}
	head, e := argon.Head(p, in)
	if e != want || want != api.OK && head != "" || want == api.OK && len(head) != 64 {
		t.Fatalf("Head of %+v, %d, %d, %d, %d bytes: %x, %d, not %d", p, len(in.Word), len(in.Salt), len(in.Secret), len(in.Data), head, e, want)
	}
	if want == api.OK {
		refused(t, empty, p, in, api.ErrBudget, api.ErrNone)
		return
	}
	refused(t, empty, p, in, want, want)
}

// P33.1, and that the other calls have its errors

// far are numbers that none of the parameters may be; products of some of them wrap around to such as may be.
func far() []int {
	return []int{math.MinInt, math.MinInt + 1, math.MinInt + 8, -1 << 62, -1 << 61, -1 << 60, -1<<32 + 1, -1 << 32, -1 << 31, -1024, -32, -8, -4, -2, -1, 0, 1 << 32, 1<<32 + 1, 1<<32 + 4, 1<<32 + 32, 1 << 59, 1 << 60, 1<<60 + 1, 1 << 61, 1<<61 + 1, 1 << 62, 1<<62 + 1, math.MaxInt - 1, math.MaxInt}
}

// may tells whether there is a shape of parameters, reckoned without a bound.
func may(p api.Params) bool {
	in := func(x int, least, most int64) bool {
		n := big.NewInt(int64(x))
		return n.Cmp(big.NewInt(least)) >= 0 && n.Cmp(big.NewInt(most)) <= 0
	}
	least := new(big.Int).Mul(big.NewInt(8), big.NewInt(int64(p.Lanes)))
	return in(p.Alg, 1, 3) && in(p.Time, 1, 1<<32-1) && in(p.Lanes, 1, 1<<24-1) && big.NewInt(int64(p.Memory)).Cmp(least) >= 0 && in(p.Memory, 8, 1<<32-1) && in(p.Size, 4, 1024)
}

// TestCheckParams: parameters about each edge, and all of them together.
func TestCheckParams(t *testing.T) {
	a := budget(t, 0)
	in := inputs("", "somesalt")
	fine := 0
	for _, alg := range []int{-1, 0, 1, 2, 3, 4, 5, 6, 7} {
		for _, time := range []int{0, 1, 2, 1<<32 - 1, 1 << 32} {
			for _, lanes := range []int{0, 1, 2, 3, 1<<24 - 1, 1 << 24} {
				for _, memory := range []int{0, 7, 8, 15, 16, 17, 23, 24, 1<<27 - 9, 1<<27 - 8, 1 << 27, 1<<32 - 1, 1 << 32} {
					for _, size := range []int{0, 3, 4, 1024, 1025} {
						p := costs(alg, time, memory, lanes, size)
						if !may(p) {
							checks(t, a, p, in, api.ErrParams)
							continue
						}
						fine++
						checks(t, a, p, in, api.OK)
					}
				}
			}
		}
	}
	if fine != 3*3*(10+8+5+3)*2 {
		t.Errorf("%d may be", fine)
	}
}

// TestCheckFar: numbers far beyond, one at a time and two at once.
func TestCheckFar(t *testing.T) {
	a := budget(t, 0)
	in := inputs("word", "somesalt")
	for _, alg := range []int{api.Argon2d, api.Argon2i, api.Argon2id} {
		checks(t, a, costs(alg, 3, 32, 4, 32), in, api.OK)
		for _, x := range far() {
			for _, p := range []api.Params{costs(x, 3, 32, 4, 32), costs(alg, x, 32, 4, 32), costs(alg, 3, x, 4, 32), costs(alg, 3, 32, x, 32), costs(alg, 3, 32, 4, x), costs(x, x, x, x, x)} {
				checks(t, a, p, in, api.ErrParams)
			}
			for _, y := range far() {
				checks(t, a, costs(alg, 3, x, y, 32), in, api.ErrParams)
				checks(t, a, costs(alg, x, 32, y, 32), in, api.ErrParams)
				checks(t, a, costs(alg, x, 32, 4, y), in, api.ErrParams)
			}
		}
	}
	checks(t, a, api.Params{}, api.Input{}, api.ErrParams)
}

// TestCheckSalt: salts of all lengths about the edges, and far beyond; bytes count, not runes.
func TestCheckSalt(t *testing.T) {
	a := budget(t, 0)
	p := costs(api.Argon2id, 1, 8, 1, 4)
	want := func(n int) api.Errno {
		if n >= 8 && n <= 64 {
			return api.OK
		}
		return api.ErrSize
	}
	for n := range 140 {
		checks(t, a, p, inputs("word", strings.Repeat("s", n)), want(n))
		checks(t, a, p, inputs("", strings.Repeat("\x00", n)), want(n))
		checks(t, a, p, api.Input{Word: ruled(n, 0), Salt: strings.Repeat("é", n), Secret: ruled(n, 0), Data: ruled(n, 0)}, want(2*n))
	}
	for _, n := range []int{255, 256, 256 + 8, 256 + 64, 4095, 4096, 4097, 65536, 65536 + 8, 1 << 20} {
		checks(t, a, p, inputs("word", strings.Repeat("s", n)), api.ErrSize)
	}
	checks(t, a, p, api.Input{}, api.ErrSize)
}

// TestCheckLong: each of the other inputs, at its edge and beyond, the others at theirs.
func TestCheckLong(t *testing.T) {
	a := budget(t, 0)
	p := costs(api.Argon2d, 2, 17, 2, 1024)
	lengths := []int{0, 1, 2048, 4095, 4096, 4097, 4098, 8192, 65536, 65537, 1 << 20}
	for _, n := range lengths {
		for _, salt := range []int{8, 16, 64} {
			for _, others := range []int{0, 1, 4096} {
				for i := range 3 {
					l := [3]int{others, others, others}
					l[i] = n
					want := api.OK
					if n > 4096 {
						want = api.ErrLong
					}
					checks(t, a, p, long(l[0], salt, l[1], l[2]), want)
				}
			}
		}
	}
	checks(t, a, p, api.Input{Word: strings.Repeat("é", 2048), Salt: "somesalt"}, api.OK)
	checks(t, a, p, api.Input{Word: strings.Repeat("é", 2049), Salt: "somesalt"}, api.ErrLong)
	checks(t, a, p, long(4097, 64, 4097, 4097), api.ErrLong)
	checks(t, a, p, long(2000, 64, 2000, 2000), api.OK) // together they may have more
	checks(t, a, p, long(4096, 64, 4096, 4096), api.OK)
}

// TestCheckOrder: of several faults the one named first.
func TestCheckOrder(t *testing.T) {
	a := budget(t, 0)
	for n := range 1 << 6 {
		p, in := costs(api.Argon2i, 1, 8, 1, 16), long(10, 16, 10, 10)
		want := api.OK
		if n&4 != 0 {
			in.Word, want = ruled(4097, 0), api.ErrLong
		}
		if n&8 != 0 {
			in.Secret, want = ruled(4097, 0), api.ErrLong
		}
		if n&16 != 0 {
			in.Data, want = ruled(5000, 0), api.ErrLong
		}
		if n&2 != 0 {
			in.Salt, want = ruled(7, 0), api.ErrSize
		}
		if n&32 != 0 {
			in.Salt, want = ruled(5000, 0), api.ErrSize
		}
		if n&1 != 0 {
			p.Memory, want = 7, api.ErrParams
		}
		checks(t, a, p, in, want)
	}
}

// P33.2

// TestHeadOfRFC: the heads that RFC 9106 tells.
func TestHeadOfRFC(t *testing.T) {
	for alg, want := range map[int]string{
		api.Argon2d:  "b8819791a0359660bb7709c85fa48f04d5d82c05c5f215ccdb885491717cf757082c28b951be381410b5fc2eb7274033b9fdc7ae672bcaac5d179097a4af3109",
		api.Argon2i:  "c46065815276a0b3e731731c902f1fd80cf776907fbb7b6a5ca72e7b56011feeca446c86dd75b9469a5e6879dec4b72d0863fb939b982e5f397cc7d164fddaa9",
		api.Argon2id: "2889de487eb42ae500c0007ed9252f1069eadec40d5765b485de6dc2437a67b8546a2f0acc1a0882db8fcf74714b472e94df421a5da1112ffa11434370a1e997",
	} {
		if head, e := argon.Head(costs(alg, 3, 32, 4, 32), rfc()); hex.EncodeToString([]byte(head)) != want || e != api.OK {
			t.Errorf("%d: %x, %d", alg, head, e)
		}
	}
}

// TestHeadKnown: heads of another BLAKE2b, by their SHA-256, of parameters whose memory no arena has.
func TestHeadKnown(t *testing.T) {
	for _, c := range []struct {
		alg, time, memory, lanes, size int
		word, salt, secret, data       int
		want                           string
	}{
		{3, 4294967295, 4294967295, 16777215, 1024, 32, 16, 8, 12, "66285b6fba4242086c914868bc606a85fa12b11166d5674b19ceb23aa3e65b91"},
		{1, 4294967295, 8, 1, 4, 0, 8, 0, 0, "18fe5216dc93a8dafa6451e8d65d70dbb8f97eede432921bb13327883080b776"},
		{2, 1, 4294967295, 1, 4, 0, 8, 0, 0, "52280e1df4fb575718a1666c07b35d79bbc25660dcf032d2732ef72841329c49"},
		{3, 1, 134217720, 16777215, 4, 0, 8, 0, 0, "ad81b614597453b34f36d4ad845c6e34b811293c6fca0e76867ecda63304f01b"},
		{1, 16909060, 168496141, 460809, 515, 3, 11, 5, 7, "38a89d9744c4d39f9fb24fca267e79a12b82c44afcc77dae98e8208d2b97fa94"},
		{2, 65536, 16777216, 65536, 256, 4096, 64, 4096, 4096, "f5cb75f7f933de8efcee3b7147b2ac9fb978b365387cb4d0c4cfc7abbe2b9963"},
		{3, 16777216, 2147483648, 256, 1000, 77, 64, 0, 2, "5ab57df38b1774afd271007d2f88dc83f60b3fc31652e8c47a78feaeecc971c8"},
	} {
		head, e := argon.Head(costs(c.alg, c.time, c.memory, c.lanes, c.size), long(c.word, c.salt, c.secret, c.data))
		if digest(head) != c.want || e != api.OK {
			t.Errorf("%+v: %s, %d", c, digest(head), e)
		}
	}
}

// TestHead: of any parameters and inputs, and of inputs of all lengths about BLAKE2b's blocks.
func TestHead(t *testing.T) {
	r := rand.New(rand.NewSource(3300))
	same := func(p api.Params, in api.Input) {
		t.Helper()
		if head, e := argon.Head(p, in); head != headOf(p, in) || e != api.OK {
			t.Fatalf("%+v, %+v: %x, %d, not %x", p, in, head, e, headOf(p, in))
		}
	}
	text := func(least, most int) string {
		b := make([]byte, least+r.Intn(most-least+1))
		r.Read(b)
		return string(b)
	}
	for n := range 300 {
		same(costs(api.Argon2id, 1, 8, 1, 32), long(n, 8, 0, 0))
		same(costs(api.Argon2i, 1, 8, 1, 32), long(0, 8+n%57, n, 1))
		same(costs(api.Argon2d, 1, 8, 1, 32), long(1, 64-n%57, 2, n))
	}
	for range 2000 {
		lanes := 1 + r.Intn(1<<(1+r.Intn(24))-1)
		memory := 8*lanes + r.Intn(1<<32-8*lanes)
		p := costs(api.Argon2d+r.Intn(3), 1+r.Intn(1<<32-1), memory, lanes, 4+r.Intn(1021))
		same(p, api.Input{Word: text(0, 300), Salt: text(8, 64), Secret: text(0, 40), Data: text(0, 40)})
	}
}

// TestHeadEachCounts: each parameter and each input, and which of the inputs a byte is in; memory that isn't used counts, too.
func TestHeadEachCounts(t *testing.T) {
	seen := map[string]string{}
	one := func(p api.Params, in api.Input) {
		t.Helper()
		head, e := argon.Head(p, in)
		name := fmt.Sprintf("%+v %+v", p, in)
		if other, ok := seen[head]; ok || e != api.OK {
			t.Errorf("%s and %s have one head, or %d", name, other, e)
		}
		seen[head] = name
	}
	for _, alg := range []int{api.Argon2d, api.Argon2i, api.Argon2id} {
		for _, time := range []int{1, 2, 40, 41, 1 << 16, 1 << 31} {
			for _, memory := range []int{40, 41, 42, 43, 47, 48, 1 << 16, 1 << 31} {
				for _, lanes := range []int{1, 2, 3, 5} {
					for _, size := range []int{4, 5, 40, 41, 256, 260} {
						one(costs(alg, time, memory, lanes, size), rfc())
					}
				}
			}
		}
	}
	p := costs(api.Argon2id, 3, 32, 4, 32)
	texts := []string{"", "a", "b", "a\x00", "\x00a", "aa", "\x00\x00\x00\x00", "\x01\x00\x00\x00"}
	for _, word := range texts {
		for _, salt := range texts {
			for _, secret := range texts {
				for _, data := range texts {
					one(p, api.Input{Word: word, Salt: "somesalt" + salt, Secret: secret, Data: data})
				}
			}
		}
	}
	one(p, inputs("pass", "wordsomesalt"))
	one(p, inputs("password", "somesalt"))
	one(p, inputs("somesalt", "password"))
	one(p, inputs("", "passwordsomesalt"))
}

// P33.3

// known are tags of another Argon2, and heads of another BLAKE2b, by their SHA-256, of inputs of so many bytes.
type known struct {
	alg, time, memory, lanes, size int
	word, salt, secret, data       int
	head, tag                      string
}

func knowns() []known {
	return []known{
		{3, 3, 32, 4, 32, 32, 16, 8, 12, "6e3d46738ba99c2e3c2806d02f6c4f6eb706dcfeda4b053d8b47098a721729d3", "59051f0f186115460f4fca30265dfa9cc4c4c1449c60b9afdeb113fe70a7976e"},
		{1, 1, 8, 1, 4, 0, 8, 0, 0, "b2489d1b5a2c7ff9f087bbda613ea0fa553e70995e25b1dae9c9054a4e136631", "5583922233dbd19c7d72d84a461efd381cc4b10e179a84c8a7a36b394675b59c"},
		{2, 1, 8, 1, 5, 1, 8, 0, 0, "c804b699cf8ab26b3c2bf856d022779bb6b81d309b009e7ef3f932ded0078bd3", "dfa36cac7bf5c19b8ee2f6b7cdce1eb6c32313ab631fa60cdceeac25bd33553b"},
		{3, 1, 8, 1, 16, 8, 8, 0, 0, "e8907dbee942029fa853c8a653f2df4e03865077e4f0b909118b0bcc214400fa", "92296ce67a0ab72c4e2809d3ed911291b1d113eba4f9470c445f0be05298afa6"},
		{3, 2, 17, 2, 32, 9, 9, 1, 0, "8eccafde43d6bf5bfd537ea24d72340069c301bf9838530b06a9aab4aaaf4cd0", "1ff122e76b0821107e396a0e7955115075fe7f9bdecbddc43963ed8cee9e9503"},
		{1, 3, 31, 3, 63, 10, 15, 0, 1, "73a5c95b7d29dc203e884bd72437ec45616fde7dd695bd141a0b2fa299ffdbb9", "4a9028cc1084f7dbe255e288ba926548dc482f331d633c263551f2fb357d032a"},
		{2, 2, 47, 4, 64, 31, 16, 1, 1, "562c85fa6eace64fcb8f0f8bf1e66a9f4dcd35fc885473bd06640ebc7dd5d6a0", "746ecaff113f6cdb8be768d4d34a67c1c3b4b3faf9208e5716f8da4b8e313bc4"},
		{3, 1, 100, 5, 65, 63, 17, 7, 3, "8354563ff7379f80a9eb82c7adc7fc8ebc2250952de90b7c8a8ca3c0a9e6e70d", "8212f00b2ef055cb9b879583e1ea713b3d96ad03d5639f1bd9c53acd8f35fa4d"},
		{1, 2, 113, 7, 96, 64, 31, 32, 0, "87d4fad02772ec6fe7bd28e1e76e2f938433c0ad70ed5f1e9512627039aebb0e", "d95c172c9aa14d870407144e0944bb278e4addd5fd883c61c057c737cabf028c"},
		{2, 1, 300, 9, 97, 65, 32, 0, 64, "0592d1e0e8aff8ecae29d4820e2da99541ede9cfdac9d5ae8f7307ad9f58fa06", "457c18ff5a4af59cbd11531f5cb17452e2aba801773da9454ff8826396408e15"},
		{3, 2, 271, 16, 128, 100, 33, 64, 65, "a752019ca899e00dd7784b7e6d62040b6f721561aeec31c23f8aa500d939b671", "3d02f07d53cb39090488cd2d7aef6055dbbc2ac2103a3b16904c005657336199"},
		{1, 1, 264, 33, 33, 127, 63, 16, 100, "50a872215c614aa626138ab170e5683edcd45781b6b77a53b7ac3d6a5703a9aa", "86d40d9e1bc7e0ef9e27f3ba2da12dc2e048cdf124536142c468e2b236603fb3"},
		{3, 1, 2040, 255, 24, 128, 64, 0, 0, "640f6d5516e7ad87d1af7bf7913be463d3f90829687e8947e310d310047d1457", "ba04ebbf2206791006bd9d983f3dd097705ae8a42965fa96c6c0410ea8b6e9b5"},
		{2, 1, 2056, 257, 31, 129, 64, 128, 129, "df63677e87a17deed06f334c7d5ed6fb0ddf31baeef2ad4b2ffd1fb406324098", "26d19f2bc8b7a2b0b33d47b612a010cc34e6b0b57bbdf935fb666e4da2378611"},
		{1, 1, 2403, 300, 20, 255, 8, 255, 256, "23efd9cae0047a26193a9aa24c20f3b0cbecde46173ac8359ccf087b799d2760", "e7c2e58d9a397e2b8738d1326fe427b359be9dee03b2c413f839c58095f5f6a6"},
		{3, 3, 600, 1, 512, 256, 40, 3, 1000, "cb0d076f5ca7bdde2c6b1900b34b72cf4f61a308fd9caf12f509287ec794868e", "5968ad722a4a4f41f95405a689728631fd5848b6dafde4620b2846a684f72f0f"},
		{2, 2, 1100, 2, 1000, 257, 50, 257, 0, "17f5ce5213f143e03458df57578af350628966508a854ba9375ff7b16384c62b", "3b18ddecfc4b457b197b73a3baff22ea7e41dee8562b5f6ed8caaf2deee02f02"},
		{1, 2, 777, 3, 1023, 1000, 60, 0, 4095, "cd490d8baedad059f5dd30cd7d75f4e218d2d0a559dbd65460db9e0e3a75d759", "a43ccd25f03c4b93278fe5590f47947986501f2795c368c1832162e0ccb9551f"},
		{3, 4, 1999, 6, 1024, 4095, 8, 4095, 4096, "d89eedb0b5aa398f74593779b72bc33cafbc6983af9e47fb53c07dd67149063d", "3dab85c742ff127761b149717c49340a7518dc4134b3779601de1f5c81c97ec7"},
		{3, 1, 16, 2, 32, 4096, 64, 4096, 4096, "8e30db65df654616b2612cb52e327b71de25408ef9ca43a593744173f39bff3c", "83b2e217f2dc944310eb9386f0077bafe475323c14620a80284b99c07eb54d05"},
		{1, 1, 16, 2, 32, 4096, 8, 0, 0, "54f184634e3be89b72aa49e9b8f6af7ca2adc74bf7424ca80d6e1d36d61582f8", "98437d1d898a5a5aefb8496eb7d2137a3721ea9ec1b2443ac89734b6da872ebe"},
		{2, 1, 16, 2, 32, 0, 64, 4096, 0, "4234801e45abd1e3f578ecf52720565cfe2173ee8b33001cc04938f2edaab937", "f3176d51bde294c87d9625e41ecaf2f6d9a855c4926a50167008fd99000285c6"},
		{3, 2, 24, 3, 24, 0, 10, 0, 4096, "688b2c10c176f57e3082547150a1a826320bbc2c95be70195a3a9e3d7a306811", "38f4e61a6f1d4ca8a546b64cc22f7e6674780db6341459047740a139e5e97525"},
		{2, 3, 516, 1, 32, 8, 16, 0, 0, "276cb9e2d3257f3ef21c47ffce3f8be8b94289c58912633815128ece679294a8", "263a6791a162c2432ad9fb749904d980102df06babfa54ca62c9dfc9a91b25af"},
		{3, 2, 1032, 1, 32, 8, 16, 0, 0, "6a7deb8e032fadfd6b89f078615afc994be29cd111a0ae58e79b49a6bee57648", "b7100f49cdb6bcc1b86a3ff55b828e0100be4471d5d4f3927c31c81fba7f2406"},
		{3, 20, 24, 3, 32, 12, 16, 0, 0, "1f97346dcd775bd426968ceb5ef1a8af0d6d02e6aa1474628773165cbdf203ac", "08ba43b9bce0185e1aed84f6215c94f346d43693db08a451fd97cb6e65b72d63"},
		{1, 100, 8, 1, 32, 12, 16, 0, 0, "ac66a02fd981a2b6ec6ee61a501c3e4f13d451cc6ef00d07bf866b11ecb6aeec", "855af7c9b062758d5f57958f6a383fa0daf8768e92ccc96af7f3cb970a34316c"},
		{3, 300, 8, 1, 32, 12, 16, 0, 0, "6caaa81c0156f7fba87f50ad5c46e9cc67afe178283738aaf66359e5808bfd52", "3154aeb08d8c78e82f1d6682e0533fff0e23bb2dc796389e90233062eb1d5fee"},
		{2, 257, 16, 2, 32, 12, 16, 5, 5, "b390b1818bc3bbe8d7756a508e19a4ec210ebda303f9d621b2daea1be9dba947", "d3aa543062693f3c1a297055d46cc21ade733d5cc41598f92caee9614d811e80"},
		{3, 2, 4099, 4, 32, 14, 16, 0, 0, "e2f35c0e51d3f85a5bd8cc03437bc72eb85293580f5afa76ebd40b17dde561aa", "1484fbf5651321bf035458be9dbb50a272729c9e7aaeffc0b6788a2be722a107"},
		{3, 1, 8, 1, 256, 14, 16, 0, 0, "1f0fdc06f5c6e2621d4432d6931fbc102d86d01c409d88fdbe5b6ae7f207b0d4", "8e40b797ee4bcc112f502da482761ba896afcb91588f86e9f6a83e89ca8bea74"},
		{3, 1, 8, 1, 255, 14, 16, 0, 0, "8acf8b97f52da9a8cca4284ee27e77c45f7d14663a2c8460328c86fa860f1650", "dd08dbc7fe8058ed7b4a84fa2faa9cb3ef804c966b03ee6cdb49bd9ea4671bb6"},
		{1, 1, 9, 1, 32, 5, 12, 0, 0, "1a540f35d40380cada293234fc008a136983312cb2a5b0d0ca91cbf3f6f8330d", "d0a30f4df70bebb6ae91e19b899684a9ebc01b9f071483ee83e920e02cc18c85"},
		{1, 1, 10, 1, 32, 5, 12, 0, 0, "c4571b37010feaae7078100464d8b9d81b3cef124dfd7dec6c1aec6479713a4d", "12da98471f6c13ae68cd464b6f7569e79c5e91d85bd074fa01fa06200c64022d"},
		{1, 1, 11, 1, 32, 5, 12, 0, 0, "aef0399e0285b611737110d354ac733187f063fd3ec5fa5c0e11468ec438a0a7", "ffff874118d641a1f9893bddcf2fc98f0cb347032fbe1395fb8c01e5a9062878"},
		{1, 1, 12, 1, 32, 5, 12, 0, 0, "e4a020a344798bbc37325ec7006d7c1b29c0f40427b321fc41e381abea0d0e06", "c6ceae42dc675f22835793b49327ae020df6bfba0242c06e416ed5d0f6ca5ded"},
	}
}

func TestKeyOfRFC(t *testing.T) {
	for alg, want := range map[int]string{
		api.Argon2d:  "512b391b6f1162975371d30919734294f868e3be3984f3c1a13a4db9fabe4acb",
		api.Argon2i:  "c814d9d1dc7f37aa13f0d77f2494bda1c8de6b016dd388d29952a4c4672b6ce8",
		api.Argon2id: "0d640df58d78766c08c037a34a8b53c9d01ef0452d75b65eb52520e96b01e659",
	} {
		if got := hex.EncodeToString([]byte(keyed(t, costs(alg, 3, 32, 4, 32), rfc()))); got != want {
			t.Errorf("%d: %s, not %s", alg, got, want)
		}
	}
}

// TestKeyKnown: tags of the other Argon2, and the heads that they come from.
func TestKeyKnown(t *testing.T) {
	for _, c := range knowns() {
		p, in := costs(c.alg, c.time, c.memory, c.lanes, c.size), long(c.word, c.salt, c.secret, c.data)
		if head, e := argon.Head(p, in); digest(head) != c.head || e != api.OK {
			t.Errorf("Head of %+v: %s, %d", c, digest(head), e)
		}
		if tag := digest(keyed(t, p, in)); tag != c.tag {
			t.Errorf("Key of %+v: %s", c, tag)
		}
	}
	for _, c := range []struct {
		alg, time, memory, lanes int
		want                     string
	}{
		{api.Argon2id, 1, 64, 1, "655ad15eac652dc59f7170a7332bf49b8469be1fdb9c28bb"},
		{api.Argon2d, 2, 64, 2, "68e2462c98b8bc6bb60ec68db418ae2c9ed24fc6748a40e9"},
		{api.Argon2i, 2, 256, 1, "89e9029f4637b295beb027056a7336c414fadd43f6b208645281cb214a56452f"},
		{api.Argon2id, 1, 37, 2, "d2d0091b6fd7f570b56c097caa1afb848e320ef41f385f7b3b5b4bdc4bf1526a"}, // 32 blocks of both are used
		{api.Argon2id, 1, 32, 2, "6d47f9b4241596d1a5cb6c24e54dd076ae57db3bee1b2d7adb562bb79dde4eb5"},
	} {
		p := costs(c.alg, c.time, c.memory, c.lanes, len(c.want)/2)
		if got := hex.EncodeToString([]byte(keyed(t, p, inputs("password", "somesalt")))); got != c.want {
			t.Errorf("%+v: %s", c, got)
		}
	}
}

// TestKeyAgainstPlain: small parameters one by one, and greater ones of any kind.
func TestKeyAgainstPlain(t *testing.T) {
	r := rand.New(rand.NewSource(3301))
	text := func(least, most int) string {
		b := make([]byte, least+r.Intn(most-least+1))
		r.Read(b)
		return string(b)
	}
	try := func(p api.Params) {
		t.Helper()
		in := api.Input{Word: text(0, 80), Salt: text(8, 64), Secret: text(0, 20), Data: text(0, 20)}
		if got, want := keyed(t, p, in), plain(p, in); got != want {
			t.Fatalf("%+v, %+v: %x, not %x", p, in, got, want)
		}
	}
	for alg := api.Argon2d; alg <= api.Argon2id; alg++ {
		for lanes := 1; lanes <= 4; lanes++ {
			for memory := 8 * lanes; memory <= 17*lanes; memory++ {
				try(costs(alg, 1+memory%3, memory, lanes, 4+r.Intn(100)))
			}
		}
	}
	for range 60 {
		lanes := 1 + r.Intn(9)
		try(costs(api.Argon2d+r.Intn(3), 1+r.Intn(4), (8+r.Intn(40))*lanes+r.Intn(9), lanes, 4+r.Intn(1021)))
	}
	try(costs(api.Argon2i, 2, 1100, 2, 1024))
	try(costs(api.Argon2id, 2, 540, 1, 1024))
	try(costs(api.Argon2d, 2, 2000, 100, 1024))
}

// TestSizes: tags of all sizes; none is the beginning of another one, as its size counts.
func TestSizes(t *testing.T) {
	ahead := ""
	for size := 4; size <= 1024; size++ {
		p, in := costs(api.Argon2id, 1, 8, 1, size), inputs("word", "somesalt")
		tag := keyed(t, p, in)
		if tag != plain(p, in) {
			t.Fatalf("%d bytes: %x", size, tag)
		}
		if strings.HasPrefix(tag, ahead) && size > 4 {
			t.Errorf("%d bytes begin with the tag of one less", size)
		}
		ahead = tag
	}
}

// seen is what a filler was called with, each time.
type seen struct {
	grids []*grid.Grid
	used  []int
	lent  []int
}

// noting is a filler that notes what it is called with ahead of another one.
func (s *seen) noting(a *arena.Arena, f argon.Filler) argon.Filler {
	return func(g *grid.Grid) api.Errno {
		s.grids = append(s.grids, g)
		s.used = append(s.used, a.Used())
		s.lent = append(s.lent, a.Lent())
		return f(g)
	}
}

// some are parameters of each algorithm: the least ones, some with memory that isn't used, and some of many lanes.
func some() []api.Params {
	var l []api.Params
	for alg := api.Argon2d; alg <= api.Argon2id; alg++ {
		l = append(l, costs(alg, 1, 8, 1, 4), costs(alg, 3, 17, 2, 65), costs(alg, 2, 37, 2, 32), costs(alg, 1, 45, 1, 100), costs(alg, 2, 100, 3, 64), costs(alg, 1, 300, 33, 1024))
	}
	return l
}

// TestByTheGrid: a filler is called once, with a grid of the shape, whose first two columns alone are there, of a piece of just as many blocks as the shape has.
func TestByTheGrid(t *testing.T) {
	for i, p := range some() {
		in := long(i, 8+i, 2*i, 3*i)
		m := begun(p, in)
		s, _ := shape.Of(p)
		a := budget(t, 2000)
		a.Reserve(i)
		look := func(g *grid.Grid) api.Errno {
			if g.Shape != s || g.Len() != blocksOf(p) || a.Used() != i+blocksOf(p) || a.Lent() != 2 {
				t.Errorf("%+v: the grid has %+v, %d blocks; %d are in use, of %d pieces", p, g.Shape, g.Len(), a.Used(), a.Lent())
			}
			for lane, row := range m.rows {
				for column, want := range row {
					if b, e := g.Load(place.Spot{Lane: lane, Column: column}); b != want || e != api.OK {
						t.Fatalf("%+v: lane %d, column %d is another block, or %d", p, lane, column, e)
					}
					if b, e := g.Get(lane*len(row) + column); b != want || e != api.OK {
						t.Fatalf("%+v: lane %d, column %d stands elsewhere, or %d", p, lane, column, e)
					}
				}
			}
			return api.OK
		}
		var calls seen
		tag, e := argon.By(a, p, in, calls.noting(a, look))
		if len(calls.grids) != 1 || tag != m.tag() || e != api.OK { // nothing is filled, so the last column is 0
			t.Errorf("%+v: %d calls, %x, %d", p, len(calls.grids), tag, e)
		}
		if a.Used() != i || a.Lent() != 1 || a.High() != i+blocksOf(p) {
			t.Errorf("%+v: %d blocks in use, of %d pieces, %d at most", p, a.Used(), a.Lent(), a.High())
		}
	}
}

// TestByAnyMemory: the tag is of what the filler has put there, and of nothing else.
func TestByAnyMemory(t *testing.T) {
	r := rand.New(rand.NewSource(3302))
	for i, p := range some() {
		in := long(3*i, 8+i, 2*i, i)
		for _, columns := range []int{0, 1, 2, blocksOf(p) / p.Lanes} { // the last ones alone, or all
			m := begun(p, in)
			put := func(g *grid.Grid) api.Errno {
				for lane, row := range m.rows {
					for column := len(row) - columns; column < len(row); column++ {
						for k := range row[column] {
							row[column][k] = r.Uint64()
						}
						if e := g.Store(place.Spot{Lane: lane, Column: column}, row[column]); e != api.OK {
							t.Error(e)
						}
					}
				}
				return api.OK
			}
			a := budget(t, blocksOf(p))
			if tag, e := argon.By(a, p, in, put); tag != m.tag() || e != api.OK {
				t.Errorf("%+v, %d columns: %x, %d, not %x", p, columns, tag, e, m.tag())
			}
			if a.Used() != 0 || a.Lent() != 0 {
				t.Errorf("%+v: %d blocks in use", p, a.Used())
			}
		}
	}
}

// falling is a filler whose lanes are filled from the last one on, within each turn.
func falling(g *grid.Grid) api.Errno {
	for turn, ok := (shape.Turn{}), true; ok; turn, ok = g.Next(turn) {
		for lane := g.Lanes - 1; lane >= 0; lane-- {
			if e := fill.Segment(g, turn, lane); e != api.OK {
				return e
			}
		}
	}
	return api.OK
}

// TestByAFiller: fill.All comes to Key's tag; so does a filler that fills the lanes in another order.
func TestByAFiller(t *testing.T) {
	for i, p := range some() {
		in := long(40-i, 8+i, 2*i, i)
		want := keyed(t, p, in)
		if want != plain(p, in) {
			t.Errorf("%+v: Key is another tag", p)
		}
		for _, f := range []argon.Filler{fill.All, falling} {
			a := budget(t, blocksOf(p)+1)
			var calls seen
			if tag, e := argon.By(a, p, in, calls.noting(a, f)); tag != want || e != api.OK || len(calls.grids) != 1 {
				t.Errorf("%+v: %x, %d, %d calls, not %x", p, tag, e, len(calls.grids), want)
			}
			if a.Used() != 0 || a.Lent() != 0 || a.High() != blocksOf(p) {
				t.Errorf("%+v: %d blocks in use, %d at most", p, a.Used(), a.High())
			}
		}
	}
}

// TestByErrors: a filler's error is By's, whatever number it has, and whatever the filler did ahead of it; the blocks are back.
func TestByErrors(t *testing.T) {
	errors := []api.Errno{-1, 17, 1000, math.MinInt, math.MaxInt}
	for e := api.ErrArg; e <= api.ErrWait; e++ {
		errors = append(errors, e)
	}
	p := costs(api.Argon2id, 1, 19, 2, 32)
	for _, want := range errors {
		for _, ahead := range []argon.Filler{fill.All, func(*grid.Grid) api.Errno { return api.OK }} {
			a := budget(t, 20)
			a.Reserve(3)
			var calls seen
			tag, e := argon.By(a, p, rfc(), calls.noting(a, func(g *grid.Grid) api.Errno {
				if e := ahead(g); e != api.OK {
					t.Error(e)
				}
				return want
			}))
			if tag != "" || e != want || len(calls.grids) != 1 || calls.used[0] != 19 || calls.lent[0] != 2 {
				t.Errorf("%d: %x, %d, %+v", want, tag, e, calls)
			}
			if a.Used() != 3 || a.Lent() != 1 || a.High() != 19 {
				t.Errorf("%d: %d blocks in use, of %d pieces, %d at most", want, a.Used(), a.Lent(), a.High())
			}
			if b, e := calls.grids[0].Load(place.Spot{}); b != (api.Block{}) || e != api.ErrState || !calls.grids[0].Clean() {
				t.Errorf("%d: the grid has its blocks still: %d", want, e)
			}
		}
	}
}

// TestBehindBy: the piece is taken back behind all, and clear; what a filler kept of it is of no use.
func TestBehindBy(t *testing.T) {
	for _, p := range some() {
		a := budget(t, blocksOf(p))
		var calls seen
		if _, e := argon.By(a, p, rfc(), calls.noting(a, fill.All)); e != api.OK {
			t.Fatal(e)
		}
		g := calls.grids[0]
		b, e := g.Load(place.Spot{Lane: p.Lanes - 1, Column: 1})
		if b != (api.Block{}) || e != api.ErrState || !g.Clean() || g.At(0) != nil {
			t.Errorf("%+v: the grid has its blocks still: %d", p, e)
		}
		if tag, e := g.Tag(); tag != "" || e != api.ErrState {
			t.Errorf("%+v: %x, %d", p, tag, e)
		}
		if e := a.Release(g.Piece); e != api.ErrState {
			t.Errorf("%+v: %d", p, e)
		}
	}
}

// TestByTakenBack: where the filler gives the piece back, the error is Tag's, and nothing is given back twice.
func TestByTakenBack(t *testing.T) {
	p := costs(api.Argon2i, 1, 16, 2, 32)
	a := budget(t, 30)
	a.Reserve(5)
	for _, f := range []argon.Filler{fill.All, func(*grid.Grid) api.Errno { return api.OK }} {
		tag, e := argon.By(a, p, rfc(), func(g *grid.Grid) api.Errno {
			f(g)
			return a.Release(g.Piece)
		})
		if tag != "" || e != api.ErrState || a.Used() != 5 || a.Lent() != 1 {
			t.Errorf("%x, %d; %d blocks in use, of %d pieces", tag, e, a.Used(), a.Lent())
		}
	}
}

// TestByAnotherPiece: what a filler lends is its own, a piece that it sets into the grid among it; the first piece alone is given back.
func TestByAnotherPiece(t *testing.T) {
	p := costs(api.Argon2d, 2, 16, 2, 32)
	a := budget(t, 40)
	var own *arena.Piece
	tag, e := argon.By(a, p, rfc(), func(g *grid.Grid) api.Errno {
		fill.All(g)
		own, _ = a.Reserve(16)
		for i := range 16 {
			b, _ := g.Get(i)
			own.Set(i, b)
		}
		g.Piece = own
		return api.OK
	})
	if tag != plain(p, rfc()) || e != api.OK {
		t.Errorf("%x, %d", tag, e)
	}
	if a.Used() != 16 || a.Lent() != 1 || a.High() != 32 || own.Clean() {
		t.Errorf("%d blocks in use, of %d pieces, %d at most", a.Used(), a.Lent(), a.High())
	}
	if e := a.Release(own); e != api.OK || a.Used() != 0 {
		t.Error(e, a.Used())
	}
}

// TestByNone: of a grid that the filler made none of, By ends all the same.
func TestByNone(t *testing.T) {
	a := budget(t, 16)
	for _, c := range []func(g *grid.Grid){
		func(g *grid.Grid) { *g = grid.Grid{} },
		func(g *grid.Grid) { g.Piece = nil },
		func(g *grid.Grid) { g.Shape = shape.Shape{} },
		func(g *grid.Grid) { g.Columns = 0 },
		func(g *grid.Grid) { g.Lanes = 1 << 40 },
	} {
		tag, e := argon.By(a, costs(api.Argon2d, 1, 16, 2, 32), rfc(), func(g *grid.Grid) api.Errno {
			c(g)
			return api.OK
		})
		if tag != "" || e == api.OK || a.Used() != 0 || a.Lent() != 0 {
			t.Errorf("%x, %d; %d blocks in use", tag, e, a.Used())
		}
	}
}

// TestByPanics: a filler's panic is its own; the blocks are back behind it.
func TestByPanics(t *testing.T) {
	a := budget(t, 20)
	a.Reserve(2)
	what := func() (what any) {
		defer func() { what = recover() }()
		argon.By(a, costs(api.Argon2d, 1, 16, 2, 32), rfc(), func(*grid.Grid) api.Errno { panic("mine") })
		return nil
	}()
	if what != "mine" || a.Used() != 2 || a.Lent() != 1 || a.High() != 18 {
		t.Errorf("%v; %d blocks in use, of %d pieces, %d at most", what, a.Used(), a.Lent(), a.High())
	}
}

// TestByWithin: a filler may ask for other tags by way of the same arena.
func TestByWithin(t *testing.T) {
	p, q := costs(api.Argon2d, 2, 16, 2, 32), costs(api.Argon2id, 1, 26, 3, 64)
	a := budget(t, 16+24)
	var inner string
	outer, e := argon.By(a, p, rfc(), func(g *grid.Grid) api.Errno {
		var e api.Errno
		if inner, e = argon.Key(a, q, inputs("inner", "somesalt")); e != api.OK {
			return e
		}
		if _, e := argon.Key(a, costs(api.Argon2id, 1, 28, 1, 64), inputs("inner", "somesalt")); e != api.ErrBudget {
			t.Error(e)
		}
		return fill.All(g)
	})
	if outer != plain(p, rfc()) || inner != plain(q, inputs("inner", "somesalt")) || e != api.OK {
		t.Errorf("%x, %x, %d", outer, inner, e)
	}
	if a.Used() != 0 || a.High() != 40 {
		t.Errorf("%d blocks in use, %d at most", a.Used(), a.High())
	}
}

// TestBudget: as many blocks as the shape has are enough, and one less is not; what is lent counts, and memory that isn't used does not.
func TestBudget(t *testing.T) {
	for i, p := range some() {
		in := long(i, 8, 0, i)
		want, n := plain(p, in), blocksOf(p)
		for _, lent := range []int{0, 1, 7, n} {
			for left := n - 2; left <= n+2; left++ {
				a := budget(t, lent+left)
				if _, e := a.Reserve(lent); e != api.OK {
					t.Fatal(e)
				}
				if left < n {
					if tag, e := argon.By(a, p, in, never(t)); tag != "" || e != api.ErrBudget || a.High() != lent {
						t.Fatalf("%+v, %d of %d blocks: %x, %d, %d at most", p, left, n, tag, e, a.High())
					}
				}
				tag, e := argon.Key(a, p, in)
				if left < n && (tag != "" || e != api.ErrBudget || a.High() != lent) {
					t.Fatalf("%+v, %d of %d blocks: %x, %d, %d at most", p, left, n, tag, e, a.High())
				}
				if left >= n && (tag != want || e != api.OK || a.High() != lent+n) {
					t.Fatalf("%+v, %d of %d blocks: %x, %d, %d at most", p, left, n, tag, e, a.High())
				}
				if a.Used() != lent || a.Lent() != 1 || a.Budget() != lent+left {
					t.Fatalf("%+v: %d blocks in use, of %d pieces", p, a.Used(), a.Lent())
				}
			}
		}
	}
}

// TestFarBeyondBudget: what needs more blocks than any arena has is refused at once.
func TestFarBeyondBudget(t *testing.T) {
	a := budget(t, api.MaxBudget)
	for _, p := range []api.Params{costs(api.Argon2d, 1, 1<<22+4, 1, 32), costs(api.Argon2i, 1<<32-1, 1<<32-1, 1, 4), costs(api.Argon2id, 1<<32-1, 1<<32-1, 1<<24-1, 1024), costs(api.Argon2id, 1, 8*(1<<24-1), 1<<24-1, 32), costs(api.Argon2d, 1, 1<<23, 1<<20, 32)} {
		if tag, e := argon.Key(a, p, rfc()); tag != "" || e != api.ErrBudget {
			t.Errorf("%+v: %x, %d", p, tag, e)
		}
		if tag, e := argon.By(a, p, rfc(), never(t)); tag != "" || e != api.ErrBudget {
			t.Errorf("%+v: %x, %d", p, tag, e)
		}
	}
	if a.Used() != 0 || a.Lent() != 0 || a.High() != 0 {
		t.Error("something was lent")
	}
}

// TestErrorsInOrder: parameters and inputs ahead of the arena, and that there is none ahead of its budget.
func TestErrorsInOrder(t *testing.T) {
	var zero arena.Arena
	full := budget(t, 5)
	full.Reserve(5)
	fine, none := costs(api.Argon2id, 1, 8, 1, 32), costs(api.Scrypt, 1, 8, 1, 32)
	for _, c := range []struct {
		a    *arena.Arena
		p    api.Params
		in   api.Input
		want api.Errno
	}{
		{nil, fine, rfc(), api.ErrNone},
		{nil, costs(api.Argon2id, 1, 1<<32-1, 1, 32), rfc(), api.ErrNone},
		{nil, none, rfc(), api.ErrParams},
		{nil, fine, inputs("word", "salt"), api.ErrSize},
		{nil, fine, long(4097, 8, 0, 0), api.ErrLong},
		{full, fine, rfc(), api.ErrBudget},
		{full, none, rfc(), api.ErrParams},
		{full, fine, inputs("word", "salt"), api.ErrSize},
		{full, fine, long(0, 8, 4097, 0), api.ErrLong},
		{full, none, long(0, 7, 4097, 0), api.ErrParams},
		{full, fine, long(0, 65, 0, 4097), api.ErrSize},
		{&zero, fine, rfc(), api.ErrBudget},
	} {
		if tag, e := argon.Key(c.a, c.p, c.in); tag != "" || e != c.want {
			t.Errorf("Key of %+v: %q, %d, not %d", c.p, tag, e, c.want)
		}
		if tag, e := argon.By(c.a, c.p, c.in, never(t)); tag != "" || e != c.want {
			t.Errorf("By of %+v: %q, %d, not %d", c.p, tag, e, c.want)
		}
	}
	if full.Used() != 5 || full.Lent() != 1 || full.High() != 5 {
		t.Error("the arena is changed")
	}
}

// P33.4

// TestArenaDoesNotMatter: one tag by way of unlike arenas, and one behind the other by way of one; pieces that are lent stay as they are.
func TestArenaDoesNotMatter(t *testing.T) {
	r := rand.New(rand.NewSource(3303))
	a := budget(t, 500)
	var pieces []*arena.Piece
	var images []api.Block
	for i := range 120 {
		if i%10 == 0 { // blocks of any words, some of which are taken back ahead of the next tags
			piece, e := a.Reserve(5)
			if e != api.OK {
				t.Fatal(e)
			}
			var b api.Block
			for k := range b {
				b[k] = r.Uint64()
			}
			for k := range 5 {
				piece.Set(k, b)
			}
			pieces, images = append(pieces, piece), append(images, b)
		}
		if i%30 == 29 {
			a.Release(pieces[0])
			pieces, images = pieces[1:], images[1:]
		}
		lanes := 1 + r.Intn(5)
		p := costs(api.Argon2d+r.Intn(3), 1+r.Intn(3), 8*lanes+r.Intn(30), lanes, 50)
		used, lent := a.Used(), a.Lent()
		a.Mark()
		tag, e := argon.Key(a, p, rfc())
		if want := keyed(t, p, rfc()); tag != want || e != api.OK {
			t.Fatalf("%+v: %x, %d, not %x", p, tag, e, want)
		}
		if a.Used() != used || a.Lent() != lent || a.High() != used+blocksOf(p) {
			t.Fatalf("%+v: %d blocks in use, not %d, %d at most", p, a.Used(), used, a.High())
		}
	}
	for i, p := range pieces {
		for k := range 5 {
			if b, e := p.Get(k); b != images[i] || e != api.OK {
				t.Error("a piece that is lent is changed", i, k, e)
			}
		}
	}
}

// TestAgain: one call twice comes to one tag, whatever came ahead of it, errors among it.
func TestAgain(t *testing.T) {
	a := budget(t, 40)
	p := costs(api.Argon2id, 2, 33, 4, 48)
	first, _ := argon.Key(a, p, rfc())
	argon.Key(a, costs(api.Argon2d, 1, 40, 1, 1000), inputs("other", "somesalt"))
	argon.Key(a, costs(api.Argon2i, 1, 44, 1, 32), rfc())
	argon.Key(a, api.Params{}, api.Input{})
	argon.By(a, p, rfc(), func(*grid.Grid) api.Errno { return api.ErrWait })
	if tag, e := argon.Key(a, p, rfc()); tag != first || tag != plain(p, rfc()) || e != api.OK {
		t.Errorf("%x, not %x, %d", tag, first, e)
	}
	if a.Used() != 0 || a.Lent() != 0 {
		t.Error("something is lent")
	}
}

// TestEachCounts: each parameter and each input; memory that isn't used counts, too.
func TestEachCounts(t *testing.T) {
	tags := map[string]string{}
	one := func(p api.Params, in api.Input) {
		t.Helper()
		p.Size = 32
		tag, name := keyed(t, p, in), fmt.Sprintf("%+v %.200v", p, in)
		if other, ok := tags[tag]; ok {
			t.Errorf("%s and %s have one tag", name, other)
		}
		tags[tag] = name
	}
	for alg := api.Argon2d; alg <= api.Argon2id; alg++ {
		for time := 1; time <= 3; time++ {
			for memory := 24; memory <= 50; memory++ {
				for lanes := 1; lanes <= 3; lanes++ {
					one(costs(alg, time, memory, lanes, 32), rfc())
				}
			}
		}
	}
	p := costs(api.Argon2id, 1, 8, 1, 32)
	texts := []string{"", "a", "b", "a\x00", strings.Repeat("a", 4095), strings.Repeat("a", 4096)}
	for _, word := range texts {
		for _, salt := range []string{"", "a", "a\x00", strings.Repeat("a", 56)} {
			for _, secret := range texts {
				for _, data := range texts {
					one(p, api.Input{Word: word, Salt: "somesalt" + salt, Secret: secret, Data: data})
				}
			}
		}
	}
}

// TestSomeAtOnce: calls by way of arenas of their own may go on at once.
func TestSomeAtOnce(t *testing.T) {
	l := some()
	tags := make([]string, len(l))
	var all sync.WaitGroup
	for i, p := range l {
		a := budget(t, blocksOf(p))
		all.Go(func() { tags[i], _ = argon.Key(a, p, rfc()) })
	}
	all.Wait()
	for i, p := range l {
		if tags[i] != plain(p, rfc()) {
			t.Errorf("%+v: %x", p, tags[i])
		}
	}
}

func TestExample(t *testing.T) {
	a := budget(t, 32)
	want, _ := hex.DecodeString("0d640df58d78766c08c037a34a8b53c9d01ef0452d75b65eb52520e96b01e659")
	tag, e := argon.Key(a, costs(api.Argon2id, 3, 32, 4, 32), rfc())
	if !bytes.Equal([]byte(tag), want) || e != api.OK || a.Used() != 0 || a.High() != 32 {
		t.Errorf("%x, %d; %d blocks in use, %d at most", tag, e, a.Used(), a.High())
	}
}
