package fill_test

import (
	"crypto/sha256"
	"encoding/binary"
	"encoding/hex"
	"math"
	"math/big"
	"math/rand"
	"slices"
	"strconv"
	"strings"
	"testing"

	"pestle/address"
	"pestle/api"
	"pestle/arena"
	"pestle/blake"
	"pestle/blend"
	"pestle/fill"
	"pestle/grid"
	"pestle/place"
	"pestle/shape"
)

// sized is the shape of parameters, with a tag of so many bytes.
func sized(t *testing.T, alg, passes, memory, lanes, size int) shape.Shape {
	t.Helper()
	s, e := shape.Of(api.Params{Alg: alg, Time: passes, Memory: memory, Lanes: lanes, Size: size})
	if e != api.OK {
		t.Fatalf("no shape of %d passes, %d blocks, %d lanes, %d bytes: %d", passes, memory, lanes, size, e)
	}
	return s
}

// shaped is the shape of parameters.
func shaped(t *testing.T, alg, passes, memory, lanes int) shape.Shape {
	t.Helper()
	return sized(t, alg, passes, memory, lanes, 32)
}

// some are shapes of each algorithm: the least ones, some with memory that isn't used, and some whose segments have more than a block of addresses.
func some(t *testing.T) []shape.Shape {
	var l []shape.Shape
	for _, alg := range []int{api.Argon2d, api.Argon2i, api.Argon2id} {
		l = append(l,
			shaped(t, alg, 1, 8, 1),
			shaped(t, alg, 3, 16, 2),
			shaped(t, alg, 2, 37, 2),
			shaped(t, alg, 4, 83, 1),
			shaped(t, alg, 2, 81, 5),
			shaped(t, alg, 3, 100, 3),
			shaped(t, alg, 2, 540, 1),
		)
	}
	return l
}

// far are numbers of no lane and no column, and at the edges of their kind.
func far() []int {
	return []int{math.MinInt, math.MinInt + 1, math.MinInt + 8, -1 << 62, -1 << 61, -1 << 60, -1 << 32, -1 << 31, -9, -8, -2, -1, 1 << 31, 1<<32 - 1, 1 << 32, 1<<32 + 1, 1 << 59, 1 << 60, 1<<60 + 1, 1 << 61, 1<<61 + 1, 1 << 62, 1<<62 + 1, math.MaxInt - 7, math.MaxInt - 1, math.MaxInt}
}

// chance is a block of any words.
func chance(r *rand.Rand) api.Block {
	var b api.Block
	for k := range b {
		b[k] = r.Uint64()
	}
	return b
}

// digest is SHA-256's sum of a text, in digits, by which long ones are told apart.
func digest(s string) string {
	b := sha256.Sum256([]byte(s))
	return hex.EncodeToString(b[:])
}

// bytesOf are blocks' words, the lowest byte of each first.
func bytesOf(l ...api.Block) string {
	var b []byte
	for _, x := range l {
		for _, w := range x {
			b = binary.LittleEndian.AppendUint64(b, w)
		}
	}
	return string(b)
}

// counted are numbers of 32 bits, the lowest byte of each first.
func counted(l ...int) string {
	var b []byte
	for _, n := range l {
		b = binary.LittleEndian.AppendUint32(b, uint32(n))
	}
	return string(b)
}

// head is the 64 bytes that Argon2 begins with.
func head(t *testing.T, s shape.Shape, texts ...string) string {
	t.Helper()
	all := counted(s.Lanes, s.Size, s.Memory, s.Passes, 19, s.Alg-api.Argon2d)
	for _, text := range texts {
		all += counted(len(text)) + text
	}
	h, e := blake.Of(64, "", all)
	if e != api.OK {
		t.Fatal(e)
	}
	return h
}

// rfc are the inputs of RFC 9106's examples.
func rfc() []string {
	return []string{strings.Repeat("\x01", 32), strings.Repeat("\x02", 16), strings.Repeat("\x03", 8), strings.Repeat("\x04", 12)}
}

// plain are the inputs of the other known answers.
func plain() []string { return []string{"password", "somesalt", "", ""} }

// rig is a grid, what it is made of, and what the piece's blocks are to be.
type rig struct {
	a      *arena.Arena
	p      *arena.Piece
	g      *grid.Grid
	s      shape.Shape
	blocks []api.Block
}

// made is a grid of a shape, of a piece that has some blocks more, any words of which stand in them.
func made(t *testing.T, s shape.Shape, more int) *rig {
	t.Helper()
	n := s.Blocks + more
	a, e := arena.New(n)
	if e != api.OK {
		t.Fatal(e)
	}
	x := &rig{a: a, s: s}
	if x.p, e = a.Reserve(n); e != api.OK {
		t.Fatal(e)
	}
	if x.g, e = grid.New(x.p, s); e != api.OK {
		t.Fatalf("New of %d blocks, %+v: %d", n, s, e)
	}
	x.blocks = make([]api.Block, n)
	x.mess(t, int64(n*100+s.Lanes))
	return x
}

// mess has any words stand in the piece's blocks.
func (x *rig) mess(t *testing.T, seed int64) {
	t.Helper()
	r := rand.New(rand.NewSource(seed))
	for i := range x.blocks {
		x.blocks[i] = chance(r)
		if e := x.p.Set(i, x.blocks[i]); e != api.OK {
			t.Fatal(e)
		}
	}
}

// clean has the piece's blocks be 0, all of them.
func (x *rig) clean() {
	clear(x.blocks)
	for i := range x.blocks {
		x.p.Set(i, api.Block{})
	}
}

// begin has the first two columns begun, and what is to be with them.
func (x *rig) begin(t *testing.T, head string) {
	t.Helper()
	if e := x.g.Begin(head); e != api.OK {
		t.Fatal(e)
	}
	for lane := range x.s.Lanes {
		for column := range 2 {
			at := place.Spot{Lane: lane, Column: column}
			b, e := x.g.Load(at)
			if e != api.OK {
				t.Fatal(e)
			}
			*x.at(at) = b
		}
	}
}

// at is the block at a spot as it is to be: lanes stand one behind the other.
func (x *rig) at(at place.Spot) *api.Block { return &x.blocks[at.Lane*x.s.Columns+at.Column] }

// stands tells of a piece whose blocks, any of them, are not as they are to be.
func (x *rig) stands(t *testing.T) {
	t.Helper()
	for i, want := range x.blocks {
		if b, e := x.p.Get(i); b != want || e != api.OK {
			t.Fatalf("%+v: block %d of the piece is another one, or %d", x.s, i, e)
		}
	}
}

// spots are the lanes and columns that there are, one behind the other.
func (x *rig) spots() []place.Spot {
	var l []place.Spot
	for lane := range x.s.Lanes {
		for column := range x.s.Columns {
			l = append(l, place.Spot{Lane: lane, Column: column})
		}
	}
	return l
}

// part is one block that is filled: whose it is, and when.
type part struct {
	shape.Turn
	lane, index int
}

// first is the first index of a turn that is filled.
func first(turn shape.Turn) int {
	if turn == (shape.Turn{}) {
		return 2
	}
	return 0
}

// turns are a shape's, one behind the other.
func turns(s shape.Shape) []shape.Turn {
	var l []shape.Turn
	for pass := range s.Passes {
		for slice := range 4 {
			l = append(l, shape.Turn{Pass: pass, Slice: slice})
		}
	}
	return l
}

// parts are a turn's, lane by lane.
func parts(s shape.Shape, turn shape.Turn) []part {
	var l []part
	for lane := range s.Lanes {
		for index := first(turn); index < s.Segment; index++ {
			l = append(l, part{turn, lane, index})
		}
	}
	return l
}

// Argon2 as RFC 9106 has it, by way of what may be referred to, written out column by column.

// spot is where a part's block is.
func (x *rig) spot(p part) place.Spot {
	return place.Spot{Lane: p.lane, Column: p.Slice*x.s.Segment + p.index}
}

// ahead is where the block ahead of a part's is, round and round.
func (x *rig) ahead(p part) place.Spot {
	return place.Spot{Lane: p.lane, Column: (p.Slice*x.s.Segment + p.index + x.s.Columns - 1) % x.s.Columns}
}

// free tells whether a part's numbers hang on no block.
func (x *rig) free(p part) bool {
	return x.s.Alg == api.Argon2i || x.s.Alg == api.Argon2id && p.Pass == 0 && p.Slice < 2
}

// numbers are a part's two.
func (x *rig) numbers(p part) (uint32, uint32) {
	w := x.at(x.ahead(p))[0]
	if x.free(p) {
		seed := api.Block{uint64(p.Pass), uint64(p.lane), uint64(p.Slice), uint64(x.s.Blocks), uint64(x.s.Passes), uint64(x.s.Alg - api.Argon2d), uint64(p.index/128 + 1)}
		w = blend.Mix(api.Block{}, blend.Mix(api.Block{}, seed))[p.index%128]
	}
	return uint32(w % (1 << 32)), uint32(w / (1 << 32))
}

// columns are those of a lane to which a part may refer, the oldest one first.
func (x *rig) columns(p part, own bool) []int {
	var l []int
	from, to := 0, p.Slice*x.s.Segment
	if p.Pass > 0 {
		from, to = (p.Slice+1)*x.s.Segment, (p.Slice+4)*x.s.Segment
	}
	if own {
		to += p.index
	}
	for column := from; column < to; column++ {
		l = append(l, column%x.s.Columns)
	}
	if own || p.index == 0 {
		l = l[:len(l)-1]
	}
	return l
}

// chosen is which of so many a number chooses, reckoned without a bound.
func chosen(many int, j1 uint32) int {
	n := new(big.Int).SetUint64(uint64(j1))
	n.Rsh(n.Mul(n, n), 32)
	n.Rsh(n.Mul(n, big.NewInt(int64(many))), 32)
	return many - 1 - int(n.Int64())
}

// step is what a part's block hangs on.
func (x *rig) step(p part) fill.Step {
	j1, j2 := x.numbers(p)
	of := p.lane
	if p.Turn != (shape.Turn{}) {
		of = int(uint64(j2) % uint64(x.s.Lanes))
	}
	l := x.columns(p, of == p.lane)
	return fill.Step{At: x.spot(p), Before: x.ahead(p), Refer: place.Spot{Lane: of, Column: l[chosen(len(l), j1)]}}
}

// over has a step's block be as it is to be.
func (x *rig) over(turn shape.Turn, s fill.Step) {
	b := blend.Mix(*x.at(s.Before), *x.at(s.Refer))
	if turn.Pass > 0 {
		for k, w := range x.at(s.At) {
			b[k] ^= w
		}
	}
	*x.at(s.At) = b
}

// segment has a lane's blocks of a turn be as they are to be.
func (x *rig) segment(turn shape.Turn, lane int) {
	for index := first(turn); index < x.s.Segment; index++ {
		p := part{turn, lane, index}
		x.over(turn, x.step(p))
	}
}

// all has all blocks be as they are to be.
func (x *rig) all() {
	for _, turn := range turns(x.s) {
		for lane := range x.s.Lanes {
			x.segment(turn, lane)
		}
	}
}

// looks tells of a part whose numbers, or what it hangs on, are others.
func (x *rig) looks(t *testing.T, p part, source *address.Source) (fill.Step, string) {
	t.Helper()
	j1, j2 := x.numbers(p)
	if a, b, e := fill.Numbers(x.g, p.Turn, p.lane, p.index, source); a != j1 || b != j2 || e != api.OK {
		t.Fatalf("%+v, Numbers of %+v: %x, %x, %d, not %x, %x", x.s, p, a, b, e, j1, j2)
	}
	want := x.step(p)
	got, e := fill.Look(x.g, p.Turn, p.lane, p.index, source)
	if got != want || e != api.OK {
		t.Fatalf("%+v, Look of %+v: %+v, %d, not %+v", x.s, p, got, e, want)
	}
	return got, line(p, j1, j2, got)
}

// line is a part, with its numbers and what it hangs on.
func line(p part, j1, j2 uint32, s fill.Step) string {
	var l []string
	for _, n := range []int{p.Pass, p.Slice, p.lane, p.index, int(j1), int(j2), s.At.Column, s.Before.Column, s.Refer.Lane, s.Refer.Column} {
		l = append(l, strconv.Itoa(n))
	}
	return strings.Join(l, " ") + "\n"
}

// source is a part's.
func (x *rig) source(p part) *address.Source { return address.New(x.s, p.Turn, p.lane) }

// P32.1

// TestLookOfRFC: steps of RFC 9106's examples, and of a shape of longer segments, as another Argon2 takes them.
func TestLookOfRFC(t *testing.T) {
	type row struct {
		alg, passes, memory, lanes        int
		pass, slice, lane, index          int
		j1, j2                            uint32
		at, before, referLane, referBlock int
	}
	for _, c := range []row{
		{api.Argon2d, 3, 32, 4, 0, 1, 0, 0, 0xba9d571c, 0xf7180a33, 2, 1, 3, 0},
		{api.Argon2d, 3, 32, 4, 0, 1, 0, 1, 0x1fe274bd, 0xdd269d6d, 3, 2, 1, 1},
		{api.Argon2d, 3, 32, 4, 0, 2, 1, 1, 0x4db50eb2, 0x1ad345df, 5, 4, 3, 3},
		{api.Argon2d, 3, 32, 4, 0, 3, 2, 0, 0xe86f2897, 0x17b4c2ab, 6, 5, 3, 0},
		{api.Argon2d, 3, 32, 4, 1, 0, 2, 1, 0xb7544ec8, 0x6b6b8299, 1, 0, 1, 4},
		{api.Argon2d, 3, 32, 4, 1, 1, 0, 0, 0x227552e0, 0x1945bd92, 2, 1, 2, 0},
		{api.Argon2d, 3, 32, 4, 1, 2, 0, 0, 0x48f10ae1, 0xdcc0ded5, 4, 3, 1, 2},
		{api.Argon2d, 3, 32, 4, 2, 3, 3, 1, 0xaceeda4f, 0x3a4e77ba, 7, 6, 2, 3},
		{api.Argon2i, 3, 32, 4, 0, 1, 0, 0, 0x15d17118, 0x0f8ba8fd, 2, 1, 1, 0},
		{api.Argon2i, 3, 32, 4, 0, 1, 0, 1, 0x338997c3, 0x0092321a, 3, 2, 2, 1},
		{api.Argon2i, 3, 32, 4, 0, 3, 3, 1, 0x8f88053a, 0x5d8e84f3, 7, 6, 3, 4},
		{api.Argon2i, 3, 32, 4, 1, 0, 3, 1, 0x1bb46ac0, 0xc7d8079c, 1, 0, 0, 7},
		{api.Argon2i, 3, 32, 4, 1, 1, 2, 1, 0x63b83607, 0xc66c47f7, 3, 2, 3, 1},
		{api.Argon2i, 3, 32, 4, 2, 2, 1, 1, 0x804b1c60, 0xd8a4dff5, 5, 4, 1, 2},
		{api.Argon2i, 3, 32, 4, 2, 3, 1, 0, 0xe08b8e39, 0xfcce0232, 6, 5, 2, 1},
		{api.Argon2i, 3, 32, 4, 2, 3, 3, 1, 0x13cefd42, 0x42fea953, 7, 6, 3, 5},
		{api.Argon2id, 3, 32, 4, 0, 1, 0, 0, 0x6f4d9b3a, 0x255dff27, 2, 1, 3, 0},
		{api.Argon2id, 3, 32, 4, 0, 1, 0, 1, 0x7f374dfc, 0x27f184f1, 3, 2, 1, 1},
		{api.Argon2id, 3, 32, 4, 0, 1, 2, 1, 0xcbf8f55f, 0x3370ff2d, 3, 2, 1, 0},
		{api.Argon2id, 3, 32, 4, 1, 0, 3, 1, 0x62d6b577, 0xeede245f, 1, 0, 3, 7},
		{api.Argon2id, 3, 32, 4, 1, 2, 3, 1, 0x402bcb44, 0x97232791, 5, 4, 1, 3},
		{api.Argon2id, 3, 32, 4, 2, 1, 2, 1, 0xceeea256, 0x73a43a37, 3, 2, 3, 6},
		{api.Argon2id, 3, 32, 4, 2, 2, 2, 0, 0xd02de914, 0xdb7857f2, 4, 3, 2, 7},
		{api.Argon2id, 3, 32, 4, 2, 3, 3, 1, 0x5d795911, 0xf7b3915b, 7, 6, 3, 5},
		{api.Argon2id, 2, 96, 3, 0, 0, 0, 2, 0xbb93ce5b, 0x91d85c3a, 2, 1, 0, 0},
		{api.Argon2id, 2, 96, 3, 0, 0, 0, 3, 0xe85db4cb, 0x673ce73c, 3, 2, 0, 0},
		{api.Argon2id, 2, 96, 3, 0, 0, 2, 3, 0x2ead1bc8, 0x0a8003de, 3, 2, 2, 1},
		{api.Argon2id, 2, 96, 3, 0, 0, 2, 7, 0xcca390be, 0x4847b03d, 7, 6, 2, 2},
		{api.Argon2id, 2, 96, 3, 0, 1, 0, 0, 0x769a27a3, 0xc655a4a7, 8, 7, 2, 5},
		{api.Argon2id, 2, 96, 3, 0, 3, 1, 0, 0x1eabf4d6, 0xf5d81252, 24, 23, 0, 22},
		{api.Argon2id, 2, 96, 3, 1, 0, 0, 2, 0xc79fcaf0, 0x21d72816, 2, 1, 1, 17},
		{api.Argon2id, 2, 96, 3, 1, 0, 0, 3, 0xc072c14a, 0xc552675d, 3, 2, 1, 18},
		{api.Argon2id, 2, 96, 3, 1, 0, 2, 3, 0x4ada10eb, 0xaa96e20d, 3, 2, 1, 29},
		{api.Argon2id, 2, 96, 3, 1, 1, 1, 1, 0x6d39e340, 0x02bb5b27, 9, 8, 1, 3},
		{api.Argon2id, 2, 96, 3, 1, 1, 1, 7, 0x5308de77, 0xdd806a5c, 15, 14, 1, 10},
		{api.Argon2id, 2, 96, 3, 1, 2, 0, 6, 0x1f10f960, 0xa0b8e850, 22, 21, 2, 15},
		{api.Argon2id, 2, 96, 3, 1, 2, 1, 3, 0x392336d3, 0x267259c1, 19, 18, 2, 14},
		{api.Argon2id, 2, 96, 3, 1, 3, 1, 5, 0x6f26c7a4, 0xbb379a05, 29, 28, 2, 19},
		{api.Argon2id, 2, 96, 3, 1, 3, 2, 7, 0x05317bea, 0x3116ef45, 31, 30, 1, 23},
	} {
		x := made(t, shaped(t, c.alg, c.passes, c.memory, c.lanes), 0)
		x.begin(t, head(t, x.s, rfc()...))
		p := part{shape.Turn{Pass: c.pass, Slice: c.slice}, c.lane, c.index}
		x.upTo(t, p)
		source := x.source(p)
		j1, j2, e := fill.Numbers(x.g, p.Turn, p.lane, p.index, source)
		if j1 != c.j1 || j2 != c.j2 || e != api.OK {
			t.Errorf("Numbers, %+v: %x, %x, %d", c, j1, j2, e)
		}
		want := fill.Step{At: place.Spot{Lane: c.lane, Column: c.at}, Before: place.Spot{Lane: c.lane, Column: c.before}, Refer: place.Spot{Lane: c.referLane, Column: c.referBlock}}
		if got, e := fill.Look(x.g, p.Turn, p.lane, p.index, source); got != want || e != api.OK {
			t.Errorf("Look, %+v: %+v, %d", c, got, e)
		}
		x.stands(t)
	}
}

// upTo has all blocks ahead of a part be filled as they are to be.
func (x *rig) upTo(t *testing.T, end part) {
	t.Helper()
	for _, turn := range turns(x.s) {
		for _, p := range parts(x.s, turn) {
			if p == end {
				return
			}
			s := x.step(p)
			x.over(turn, s)
			if e := x.g.Store(s.At, *x.at(s.At)); e != api.OK {
				t.Fatal(e)
			}
		}
	}
}

// TestNumbersAndLook: of all parts, of memory of any words, as it stands; a source is asked where no block is, and there alone.
func TestNumbersAndLook(t *testing.T) {
	for _, s := range some(t) {
		x := made(t, s, 3)
		for n, turn := range turns(s) {
			x.mess(t, int64(n))
			for lane := range s.Lanes {
				source := address.New(s, turn, lane)
				for index := first(turn); index < s.Segment; index++ {
					p := part{turn, lane, index}
					x.looks(t, p, source)
					held := 0
					if x.free(p) {
						held = index/128 + 1
					}
					if source.Made() != held {
						t.Fatalf("%+v, %+v: block %d of addresses is held, not %d", s, p, source.Made(), held)
					}
				}
			}
		}
		x.stands(t)
	}
}

// TestAnyPart: parts in any order, each with a source of its own, or of the parts ahead of it; what is looked at is not kept.
func TestAnyPart(t *testing.T) {
	r := rand.New(rand.NewSource(3201))
	for _, s := range some(t) {
		x := made(t, s, 0)
		var l []part
		sources := map[part]*address.Source{}
		for _, turn := range turns(s) {
			l = append(l, parts(s, turn)...)
			for lane := range s.Lanes {
				sources[part{turn, lane, 0}] = address.New(s, turn, lane)
			}
		}
		for n := range 300 {
			p := l[r.Intn(len(l))]
			source := sources[part{p.Turn, p.lane, 0}]
			if n%3 == 0 {
				source = x.source(p)
			}
			x.looks(t, p, source)
			at := r.Intn(s.Blocks)
			x.blocks[at] = chance(r)
			x.p.Set(at, x.blocks[at])
			ahead := x.ahead(p)
			x.at(ahead)[0] = r.Uint64() << r.Intn(64)
			x.g.Store(ahead, *x.at(ahead))
			x.looks(t, p, source)
		}
		x.stands(t)
	}
}

// TestNumbersOfTheWord: the first word of the block ahead, lower half and higher one, and none of the other words.
func TestNumbersOfTheWord(t *testing.T) {
	s := shaped(t, api.Argon2d, 2, 36, 3)
	x := made(t, s, 0)
	for _, c := range []struct {
		p     part
		ahead place.Spot
	}{
		{part{shape.Turn{}, 0, 2}, place.Spot{Column: 1}},
		{part{shape.Turn{Slice: 1}, 1, 0}, place.Spot{Lane: 1, Column: 2}},
		{part{shape.Turn{Slice: 3}, 2, 2}, place.Spot{Lane: 2, Column: 10}},
		{part{shape.Turn{Pass: 1}, 2, 0}, place.Spot{Lane: 2, Column: 11}}, // the last column is ahead of the first one
		{part{shape.Turn{Pass: 1}, 0, 1}, place.Spot{Column: 0}},
		{part{shape.Turn{Pass: 1, Slice: 2}, 1, 0}, place.Spot{Lane: 1, Column: 5}},
	} {
		for _, w := range []uint64{0, 1, math.MaxUint64, 1 << 31, 1 << 32, 1 << 63, 0xfedcba9876543210, 0x00000001ffffffff, 0xffffffff00000000} {
			b := chance(rand.New(rand.NewSource(int64(w))))
			b[0] = w
			*x.at(c.ahead) = b
			x.g.Store(c.ahead, b)
			j1, j2, e := fill.Numbers(x.g, c.p.Turn, c.p.lane, c.p.index, nil)
			if j1 != uint32(w&0xffffffff) || j2 != uint32(w>>32) || e != api.OK {
				t.Errorf("%+v, word %x: %x, %x, %d", c, w, j1, j2, e)
			}
			x.looks(t, c.p, nil)
		}
	}
	x.stands(t)
}

// none tells of a look that is not refused by one error, with nothing beside it.
func none(t *testing.T, g *grid.Grid, turn shape.Turn, lane, index int, x *address.Source, want api.Errno) {
	t.Helper()
	if s, e := fill.Look(g, turn, lane, index, x); s != (fill.Step{}) || e != want {
		t.Fatalf("Look, %+v, lane %d, index %d: %+v, %d, not %d", turn, lane, index, s, e, want)
	}
}

// TestNil: there is no grid, whatever else there is; the source isn't asked.
func TestNil(t *testing.T) {
	s := shaped(t, api.Argon2i, 2, 16, 2)
	for _, turn := range []shape.Turn{{}, {Slice: 1}, {Pass: 1}, {Pass: 1, Slice: 3}, {Pass: -1, Slice: 9}} {
		for _, lane := range append(far(), 0, 1, 2) {
			for _, index := range append(far(), 0, 1, 2) {
				x := address.New(s, turn, 0)
				for _, x := range []*address.Source{nil, x} {
					if a, b, e := fill.Numbers(nil, turn, lane, index, x); a != 0 || b != 0 || e != api.ErrNone {
						t.Fatalf("Numbers: %x, %x, %d", a, b, e)
					}
					none(t, nil, turn, lane, index, x, api.ErrNone)
				}
				if x.Made() != 0 {
					t.Fatal("the source is asked")
				}
			}
			if e := fill.Segment(nil, turn, lane); e != api.ErrNone {
				t.Fatalf("Segment: %d", e)
			}
		}
		for _, s := range []fill.Step{{}, {At: place.Spot{Lane: 1, Column: 3}, Before: place.Spot{Column: 2}, Refer: place.Spot{Column: 1}}} {
			if e := fill.Fill(nil, turn, s); e != api.ErrNone {
				t.Fatalf("Fill: %d", e)
			}
		}
	}
	if e := fill.All(nil); e != api.ErrNone {
		t.Errorf("All: %d", e)
	}
}

// TestTakenBackLook: a block ahead can't be loaded; numbers that hang on no block are told.
func TestTakenBackLook(t *testing.T) {
	for _, s := range some(t) {
		x := made(t, s, 1)
		if e := x.a.Release(x.p); e != api.OK {
			t.Fatal(e)
		}
		for _, turn := range turns(s) {
			for _, p := range parts(s, turn) {
				if x.free(p) {
					x.looks(t, p, x.source(p))
					continue
				}
				source := x.source(p)
				if a, b, e := fill.Numbers(x.g, turn, p.lane, p.index, source); a != 0 || b != 0 || e != api.ErrState {
					t.Fatalf("%+v, Numbers of %+v: %x, %x, %d", s, p, a, b, e)
				}
				none(t, x.g, turn, p.lane, p.index, source, api.ErrState)
			}
		}
	}
}

// TestNoSuchPart: lanes, indexes and turns that there aren't are Load's error, or place.Of's.
func TestNoSuchPart(t *testing.T) {
	for _, s := range some(t) {
		x := made(t, s, 50)
		refuse := func(p part) {
			t.Helper()
			none(t, x.g, p.Turn, p.lane, p.index, x.source(p), api.ErrNone)
		}
		for _, turn := range turns(s) {
			for _, lane := range append(far(), s.Lanes, s.Lanes+1, s.Blocks) {
				refuse(part{turn, lane, s.Segment - 1})
			}
			for _, index := range append(far(), first(turn)-1, s.Segment, s.Segment+1, s.Columns, s.Blocks) {
				refuse(part{turn, s.Lanes - 1, index})
			}
		}
		for _, n := range append(far(), 4, 5) {
			refuse(part{shape.Turn{Slice: n}, 0, 0})
			refuse(part{shape.Turn{Pass: s.Passes - 1, Slice: n}, 0, s.Segment - 1})
			refuse(part{shape.Turn{Pass: n, Slice: 1}, 0, s.Segment - 1})
			refuse(part{shape.Turn{Pass: n, Slice: 2}, 0, s.Segment - 1})
		}
		for slice := range 4 {
			refuse(part{shape.Turn{Pass: s.Passes, Slice: slice}, 0, s.Segment - 1})
		}
		x.stands(t)
	}
}

// P32.2

// fills has a step be filled, in the grid and in what is to be.
func (x *rig) fills(t *testing.T, turn shape.Turn, s fill.Step) {
	t.Helper()
	if e := fill.Fill(x.g, turn, s); e != api.OK {
		t.Fatalf("%+v, Fill of %+v, %+v: %d", x.s, turn, s, e)
	}
	x.over(turn, s)
	if b, e := x.g.Load(s.At); b != *x.at(s.At) || e != api.OK {
		t.Fatalf("%+v, Fill of %+v, %+v: another block, or %d", x.s, turn, s, e)
	}
}

// TestFill: steps of any blocks, all three of them one, too, in all turns; no other block is changed.
func TestFill(t *testing.T) {
	r := rand.New(rand.NewSource(3202))
	for _, s := range some(t) {
		x := made(t, s, 4)
		l := x.spots()
		any := func() place.Spot { return l[r.Intn(len(l))] }
		for n, turn := range turns(s) {
			a, b, c := any(), any(), any()
			for _, step := range []fill.Step{{At: a, Before: b, Refer: c}, {At: a, Before: a, Refer: b}, {At: a, Before: b, Refer: a}, {At: c, Before: a, Refer: a}, {At: b, Before: b, Refer: b}, {At: l[0], Before: l[len(l)-1], Refer: l[n%len(l)]}} {
				x.fills(t, turn, step)
				x.stands(t)
				i := r.Intn(len(x.blocks)) // as blocks that are mixed with themselves are 0
				x.blocks[i] = chance(r)
				x.p.Set(i, x.blocks[i])
			}
		}
	}
}

// TestFillOfItself: what a block was counts behind the first pass alone, word by word.
func TestFillOfItself(t *testing.T) {
	s := shaped(t, api.Argon2d, 3, 24, 3)
	step := fill.Step{At: place.Spot{Lane: 2, Column: 5}, Before: place.Spot{Lane: 2, Column: 4}, Refer: place.Spot{Lane: 1, Column: 1}}
	for _, turn := range turns(s) {
		x := made(t, s, 0)
		mixed := blend.Mix(*x.at(step.Before), *x.at(step.Refer))
		for _, was := range []api.Block{{}, {0: 1}, {127: math.MaxUint64}, chance(rand.New(rand.NewSource(5)))} {
			if e := x.g.Store(step.At, was); e != api.OK {
				t.Fatal(e)
			}
			want := mixed
			if turn.Pass > 0 {
				for k := range want {
					want[k] ^= was[k]
				}
			}
			if e := fill.Fill(x.g, turn, step); e != api.OK {
				t.Fatal(e)
			}
			if b, e := x.g.Load(step.At); b != want || e != api.OK {
				t.Errorf("%+v: another block, or %d", turn, e)
			}
		}
	}
}

// outside are spots that a shape hasn't: about its edges, where another lane's blocks are, and far beyond.
func outside(s shape.Shape) []place.Spot {
	var l []place.Spot
	for _, n := range far() {
		l = append(l, place.Spot{Lane: n}, place.Spot{Column: n}, place.Spot{Lane: n, Column: n})
	}
	return append(l,
		place.Spot{Lane: s.Lanes}, place.Spot{Lane: s.Lanes, Column: s.Columns - 1}, place.Spot{Lane: -1, Column: s.Columns},
		place.Spot{Column: s.Columns}, place.Spot{Lane: s.Lanes - 1, Column: s.Columns}, place.Spot{Lane: s.Lanes - 1, Column: -1})
}

// TestFillOutside: a step one of whose blocks there isn't is refused, and nothing is changed.
func TestFillOutside(t *testing.T) {
	for _, s := range some(t) {
		x := made(t, s, 2*s.Columns)
		a, b, c := place.Spot{Column: 2}, place.Spot{Column: 1}, place.Spot{Lane: s.Lanes - 1}
		for _, turn := range []shape.Turn{{}, {Slice: 3}, {Pass: s.Passes - 1, Slice: 1}} {
			for _, no := range outside(s) {
				for _, step := range []fill.Step{{At: no, Before: b, Refer: c}, {At: a, Before: no, Refer: c}, {At: a, Before: b, Refer: no}, {At: no, Before: no, Refer: no}} {
					if e := fill.Fill(x.g, turn, step); e != api.ErrNone {
						t.Fatalf("%+v, Fill of %+v, %+v: %d", s, turn, step, e)
					}
				}
			}
		}
		x.stands(t)
	}
}

// TestFillErrors: of a piece that was taken back the first block that can't be loaded tells why: it is one there isn't, or it can't be reached.
func TestFillErrors(t *testing.T) {
	s := shaped(t, api.Argon2id, 2, 24, 3)
	x := made(t, s, 0)
	x.a.Release(x.p)
	is, no := place.Spot{Lane: 1, Column: 3}, place.Spot{Lane: 3, Column: 3}
	for _, c := range []struct {
		before, refer, at place.Spot
		want              api.Errno
	}{
		{is, is, is, api.ErrState},
		{is, no, is, api.ErrState},
		{is, is, no, api.ErrState},
		{is, no, no, api.ErrState},
		{no, is, is, api.ErrNone},
		{no, no, is, api.ErrNone},
		{no, is, no, api.ErrNone},
		{no, no, no, api.ErrNone},
	} {
		for _, turn := range turns(s) {
			if e := fill.Fill(x.g, turn, fill.Step{At: c.at, Before: c.before, Refer: c.refer}); e != c.want {
				t.Errorf("%+v, %+v: %d", turn, c, e)
			}
		}
	}
	if !x.p.Clean() {
		t.Error("a piece that was taken back is written to")
	}
}

// P32.3

// TestSegment: any lanes of any turns, of memory of any words: the lane's blocks of that slice are filled, and no other one is changed.
func TestSegment(t *testing.T) {
	r := rand.New(rand.NewSource(3203))
	for _, s := range some(t) {
		x := made(t, s, 5)
		l := turns(s)
		r.Shuffle(len(l), func(i, k int) { l[i], l[k] = l[k], l[i] })
		for n, turn := range append(l, shape.Turn{}, l[0]) {
			x.mess(t, int64(n))
			lane := r.Intn(s.Lanes)
			was := slices.Clone(x.blocks)
			x.segment(turn, lane)
			for _, at := range x.spots() {
				i := at.Lane*s.Columns + at.Column
				filled := at.Lane == lane && at.Column >= turn.Slice*s.Segment+first(turn) && at.Column < (turn.Slice+1)*s.Segment
				if (was[i] != x.blocks[i]) != filled {
					t.Fatalf("%+v, lane %d: %+v is filled, or isn't", turn, lane, at)
				}
			}
			if e := fill.Segment(x.g, turn, lane); e != api.OK {
				t.Fatalf("%+v, Segment of %+v, lane %d: %d", s, turn, lane, e)
			}
			x.stands(t)
		}
	}
}

// TestSegmentOfFirst: the blocks that hang on the inputs alone are not filled in the first turn, and are in all later passes.
func TestSegmentOfFirst(t *testing.T) {
	x := made(t, shaped(t, api.Argon2d, 2, 8, 1), 0)
	if e := fill.Segment(x.g, shape.Turn{}, 0); e != api.OK {
		t.Error(e)
	}
	x.stands(t)
	x.segment(shape.Turn{Pass: 1}, 0)
	if e := fill.Segment(x.g, shape.Turn{Pass: 1}, 0); e != api.OK {
		t.Error(e)
	}
	x.stands(t)
}

// TestSegmentRefused: of lanes and turns that there aren't, where there are indexes at all; nothing is changed.
func TestSegmentRefused(t *testing.T) {
	for _, s := range some(t) {
		x := made(t, s, 3*s.Columns)
		for _, turn := range turns(s)[1:] {
			for _, lane := range append(far(), s.Lanes, s.Lanes+1) {
				if e := fill.Segment(x.g, turn, lane); e != api.ErrNone {
					t.Fatalf("%+v, %+v, lane %d: %d", s, turn, lane, e)
				}
			}
		}
		for _, n := range append(far(), 4, 5, 6) {
			for _, turn := range []shape.Turn{{Slice: n}, {Pass: s.Passes - 1, Slice: n}, {Pass: n, Slice: 3}, {Pass: s.Passes, Slice: 3}} {
				if e := fill.Segment(x.g, turn, 0); e != api.ErrNone {
					t.Fatalf("%+v, %+v: %d", s, turn, e)
				}
			}
		}
		x.stands(t)
	}
}

// TestTakenBack: where there are blocks to fill they can't be reached.
func TestTakenBack(t *testing.T) {
	for _, s := range some(t) {
		x := made(t, s, 2)
		x.a.Release(x.p)
		for _, turn := range turns(s) {
			want := api.ErrState
			if turn == (shape.Turn{}) && s.Segment == 2 {
				want = api.OK
			}
			for lane := range s.Lanes {
				if e := fill.Segment(x.g, turn, lane); e != want {
					t.Errorf("%+v, Segment of %+v, lane %d: %d", s, turn, lane, e)
				}
			}
		}
		if e := fill.All(x.g); e != api.ErrState {
			t.Errorf("%+v, All: %d", s, e)
		}
		if !x.p.Clean() {
			t.Error("a piece that was taken back is written to")
		}
	}
}

// TestExample: of the chapter.
func TestExample(t *testing.T) {
	if e := fill.All(nil); e != api.ErrNone {
		t.Error(e)
	}
}

// TestAll: of memory of any words, again and again.
func TestAll(t *testing.T) {
	for _, s := range some(t) {
		x := made(t, s, 6)
		for range 2 {
			x.all()
			if e := fill.All(x.g); e != api.OK {
				t.Fatalf("%+v: %d", s, e)
			}
			x.stands(t)
		}
		x.begin(t, "head")
		x.all()
		if e := fill.All(x.g); e != api.OK {
			t.Fatalf("%+v: %d", s, e)
		}
		x.stands(t)
	}
}

// TestAllOfAnyMemory: what stood in the blocks that aren't begun doesn't matter.
func TestAllOfAnyMemory(t *testing.T) {
	for _, s := range some(t) {
		x, y := made(t, s, 0), made(t, s, 1)
		y.clean()
		for _, x := range []*rig{x, y} {
			if e := x.g.Begin("head"); e != api.OK {
				t.Fatal(e)
			}
			if e := fill.All(x.g); e != api.OK {
				t.Fatal(e)
			}
		}
		for _, at := range x.spots() {
			a, _ := x.g.Load(at)
			if b, e := y.g.Load(at); a != b || e != api.OK {
				t.Fatalf("%+v: %+v is another block, or %d", s, at, e)
			}
		}
		if b, _ := y.p.Get(s.Blocks); b != (api.Block{}) {
			t.Errorf("%+v: a block behind the shape's is changed", s)
		}
	}
}

// TestBySteps: each step told and filled by itself, then each segment, then all at once, come to what another Argon2 does: its steps, and its memory behind each turn, by SHA-256.
func TestBySteps(t *testing.T) {
	for _, c := range []struct {
		alg, passes, memory, lanes int
		steps, turns               string
	}{
		{api.Argon2d, 1, 8, 1, "39ff5ec44e7752d56cc11aa356d8dd9cfddd5a75e3b54b8cf39f75ee6afd3dc3", "5896d7747d2b295aeb00373b7b25e1f99dbb6532f6519294acb405b8573e2bf6"},
		{api.Argon2i, 1, 8, 1, "197f345ae97e0db86ead45b654293fe2a4520388f2660721997f7f4269e62fa4", "b752ed1e53e084c5349d409faf1d15b6db83947d895145774f651c2b543c071e"},
		{api.Argon2id, 1, 8, 1, "27ddca499455a25289e082186391f3cc664f1a94183592b02e260b188ee64f56", "64df43f9db694d70beb2420dc0c4d88bf699d05117c3a72cbb2a1e3c6e5e7b33"},
		{api.Argon2d, 4, 8, 1, "9a343100dd2093962524371f547b400a10e0404925ee2c0678fce22af36efd62", "7fb33e63a87b4d15afd8e81891e17e5fd053c2235d4e7015b400ebd20fdbee7e"},
		{api.Argon2i, 3, 9, 1, "aa9c5251a0325c5ecbd4ea8646d09cb51a309304fa8a3e27377589fd98ea110b", "86943a542af234d552b639bb561dc7643f9bc113ffb98e20658f73f782ecef7c"},
		{api.Argon2id, 5, 15, 1, "1fd301f1100c9a3cb737cbfe63b73122041e2c0653ff9a5fca61683997492143", "aaf99b1f30b3b21db5db9fa6fa557a6567057b4b93fbb16a1975a8f9691b8336"},
		{api.Argon2d, 2, 16, 2, "9211b2c1c44aa2f5d3287bb2d0f4b6387cb0d6d7b684adb6a97da957922cea68", "f771f822331b71897cf3fdb5e461fd7bffefb4aabce0cbb0365beabae045f0e9"},
		{api.Argon2i, 1, 17, 2, "874072bd0dd496a6c4ae49278bd412454a22a37753b3a667b3872fd8159c7359", "bd2bedb009ed4795744c505ebb74b30990ed1c035c47fdee41b7f5df04bf4150"},
		{api.Argon2id, 3, 37, 2, "856d1c9ea91d2bf70fdf5d00c55be21339051aa8137820e25c70cb87d3557570", "df8d7fd1d8239a9156317c2bb18909d48bac6fab5531730c1acace378b4461a8"},
		{api.Argon2d, 3, 31, 3, "8d41247db2080b6f2710f9788e38b239df6d3549c6fd172dccbac7cda35d3953", "ef162836093cb5f598c38790e6a0813f59520f749a68f3a1eef2b95803e73580"},
		{api.Argon2i, 2, 47, 4, "cdcf98fb1c48de85af668583f3b660c17ef86c7bc3e9edd4256d030271bf5fd5", "6fc1b675f0e9e6ccca09a12cdcd0ef86a13cf4153c245e7f130f4bd6b27e347f"},
		{api.Argon2id, 2, 100, 5, "8e5aa2c39a8bb1643f84c847c6d045293e6926721d76019e6808adbfbc256d76", "a10afd2e3d0823e4404ad1f2eba2f03aeb227812152a8a52abe4c695115d9896"},
		{api.Argon2d, 1, 300, 9, "7f0793001b5242a7c6c535d569754970a30daf6370b56f6a2c53012549bccc1e", "c4c839c53df7803087f30cfa425597f97653d2df2a5ede56d4df7c5a3cd66eed"},
		{api.Argon2i, 2, 271, 16, "e67e00d52bbc9bf472548c5a674d6ab4a3761dfc49f1eb9a5846a87f28c07d9a", "67a22376d68590ac7c3fb3e1a45e8ef4d24cfa0cc29599bd394c423886ed4993"},
		{api.Argon2id, 2, 280, 17, "b58f53bec1f1035f1345df39f874ad9ee9315988aca5a25929d31558f92d4412", "1fce3ac0563645168e48fc76725deb7c60c2d11365d6739143b2709d0e51d777"},
		{api.Argon2id, 1, 2048, 256, "c1ca1fe72967448beb66a71fc2f05e9b1dd66d2084e3695d0e695fc63bd2f3aa", "c1bd8a7865517e713c2d7488c35bc9cec14a54502392d766336a3592f637a066"},
		{api.Argon2i, 1, 2056, 257, "b3cad5d524fc383ae90f87e10425f08e75eeef279248b335ecd569f8cf9af2f4", "8f14a2315140e83cc8013e9f192f16cc710bad15ff3b4f6c47e1c95f1cc8d636"},
		{api.Argon2d, 2, 512, 1, "c12b70335dd8c282727ae1b5daa9f4e2d70906949935c9042c2d631d248ce05a", "3656823d2b25874e353207dc78979f89c66fe61ca1c2ca0b31d0797bccd5bd1c"},
		{api.Argon2i, 2, 508, 1, "69efa4cf6eafc29aeaf184c261054fb65cc50224572284e3718077e6bd30ed20", "d61a9d52ef6b67c7a5e2199c91f2c17506ae461723c3fe225e26e811940d8b4d"},
		{api.Argon2i, 1, 512, 1, "f4a6f1bf39af062e682d6598604a23460b3d5412285a53c81e2b088110e16fb7", "ae2d203a5be952df0b67d0a126df3094bd79c3cc62fa7fdf9c4bf155ec618952"},
		{api.Argon2i, 2, 516, 1, "1267163903e7abbd1cdcde8c003d66a407bdf510297069699555b8dfb09217bb", "0a5ad20cc2faa58f172bcf7e912e66d445a0761435ad4428d9ca43f85d27d394"},
		{api.Argon2id, 2, 516, 1, "9b17eea5e1d56b3f07278663acee29abb50bf76ec557a1303fa362159961f0f5", "fa2a190cfaecf51d77f573263dcb48e2772a0aa387d60a1112729f1ea480fd44"},
		{api.Argon2i, 1, 1028, 1, "55aa9458a5e2a559685b19573292e473f844c204f49c6807db39f340b4027777", "51d9058d74fa019faf7907c838910c38ea86a82e0f56c17e72e76bc4167860a1"},
		{api.Argon2id, 3, 700, 1, "b9fa43a74cbd50493e773dba560850955b3b9d1924d3ed80e6165bda93b6a7fe", "12871ad6a2183b729383d1c211194b9ae716589b3a6798346cb20173f602b3a6"},
		{api.Argon2i, 2, 1100, 2, "b4850bf362c2c721b8b6035ed16b957717f9280f09feebb9e9312b7704520701", "d7592c85a30024bae27750e98ef5bfd94c60718008edf4f793fb1ec7163b83a3"},
		{api.Argon2id, 2, 2064, 4, "30af752e3468c8d6f7abc1a15410ceff8a56cd3b8750adc4b83dbb27a32f0e3d", "1fe401ffaaa9304afb0f7c7b4465bbddfd2af4a7439542adf380931e4f39d918"},
		{api.Argon2i, 3, 96, 8, "76a230994cea9d3aa8c99729c802044c1fc377a97a5f5b84fd6c92c50b97c94e", "ee6d6607f83a21c94fd678ca091ec1522e2526d4e1e3c7c8b0622aba10a41f24"},
		{api.Argon2id, 6, 64, 3, "ef3483d8c8b8ee32556b7a69f1a0f3624f76e62aec8e9a48f8060ea13055d43f", "3541f05447fd7a27924afe3e4c5c8994b3ccbc76708b321748669c78aa299d7a"},
		{api.Argon2d, 9, 40, 2, "6c638e4c9c378f73b4a28f9bdd27deb48596f410ce268a50c5ec58de0dc59ded", "38deaf57e9dc7fda57f94f2e6357bfb1d7d9ef0198a31f8d50a9b24f0a8b2a15"},
	} {
		s := shaped(t, c.alg, c.passes, c.memory, c.lanes)
		x, y, z := made(t, s, 1), made(t, s, 0), made(t, s, 2)
		for _, x := range []*rig{x, y, z} {
			x.clean()
			x.begin(t, head(t, s, plain()...))
		}
		var steps strings.Builder
		byStep, bySegment := sha256.New(), sha256.New()
		for _, turn := range turns(s) {
			for lane := range s.Lanes {
				source := address.New(s, turn, lane)
				for index := first(turn); index < s.Segment; index++ {
					step, text := x.looks(t, part{turn, lane, index}, source)
					steps.WriteString(text)
					x.fills(t, turn, step)
				}
				if e := fill.Segment(y.g, turn, lane); e != api.OK {
					t.Fatalf("%+v, Segment of %+v, lane %d: %d", s, turn, lane, e)
				}
			}
			byStep.Write([]byte(x.text(t)))
			bySegment.Write([]byte(y.text(t)))
		}
		if e := fill.All(z.g); e != api.OK {
			t.Fatalf("%+v, All: %d", s, e)
		}
		if got := digest(steps.String()); got != c.steps {
			t.Errorf("%+v: other steps: %s", s, got)
		}
		if got := hex.EncodeToString(byStep.Sum(nil)); got != c.turns {
			t.Errorf("%+v: other blocks by steps: %s", s, got)
		}
		if got := hex.EncodeToString(bySegment.Sum(nil)); got != c.turns {
			t.Errorf("%+v: other blocks by segments: %s", s, got)
		}
		if z.text(t) != x.text(t) {
			t.Errorf("%+v: other blocks by All", s)
		}
		x.stands(t)
	}
}

// text is all bytes of the grid's blocks.
func (x *rig) text(t *testing.T) string {
	t.Helper()
	var l []api.Block
	for _, at := range x.spots() {
		b, e := x.g.Load(at)
		if e != api.OK {
			t.Fatal(e)
		}
		l = append(l, b)
	}
	return bytesOf(l...)
}

// TestPassesOfRFC: the words of the first lane's first block, and of the last lane's last one, that RFC 9106 tells behind each pass of its examples.
func TestPassesOfRFC(t *testing.T) {
	want := [3][3][2][4]uint64{
		{
			{{0xdb2fea6b2c6f5c8a, 0x719413be00f82634, 0xa1e3f6dd42aa25cc, 0x3ea8efd4d55ac0d1}, {0x28d17914aea9734c, 0x6a4622176522e398, 0x951aa08aeecb2c05, 0x6a6c49d2cb75d5b6}},
			{{0xd3801200410f8c0d, 0x0bf9e8a6e442ba6d, 0xe2ca92fe9c541fcc, 0x6269fe6db177a388}, {0x9eacfcfbdb3ce0fc, 0x07dedaeb0aee71ac, 0x074435fad91548f4, 0x2dbfff23f31b5883}},
			{{0x5f047b575c5ff4d2, 0xf06985dbf11c91a8, 0x89efb2759f9a8964, 0x7486a73f62f9b142}, {0x57cfb9d20479da49, 0x4099654bc6607f69, 0xf142a1126075a5c8, 0xc341b3ca45c10da5}},
		},
		{
			{{0xf8f9e84545db08f6, 0x9b073a5c87aa2d97, 0xd1e868d75ca8d8e4, 0x349634174e1aebcc}, {0x975f596583745e30, 0xe349bdd7edeb3092, 0xb751a689b7a83659, 0xc570f2ab2a86cf00}},
			{{0xb2e4ddfcf76dc85a, 0x4ffd0626c89a2327, 0x4af1440fff212980, 0x1e77299c7408505b}, {0xe4274fd675d1e1d6, 0x903fffb7c4a14c98, 0x7e5db55def471966, 0x421b3c6e9555b79d}},
			{{0xaf2a8bd8482c2f11, 0x785442294fa55e6d, 0x9256a768529a7f96, 0x25a1c1f5bb953766}, {0x68cf72fccc7112b9, 0x91e8c6f8bb0ad70d, 0x4f59c8bd65cbb765, 0x71e436f035f30ed0}},
		},
		{
			{{0x6b2e09f10671bd43, 0xf69f5c27918a21be, 0xdea7810ea41290e1, 0x6787f7171870f893}, {0x377fa81666dc7f2b, 0x50e586398a9c39c8, 0x6f732732a550924a, 0x81f88b28683ea8e5}},
			{{0x3653ec9d01583df9, 0x69ef53a72d1e1fd3, 0x35635631744ab54f, 0x599512e96a37ab6e}, {0x4d4b435cea35caa6, 0xc582210d99ad1359, 0xd087971b36fd6d77, 0xa55222a93754c692}},
			{{0x942363968ce597a4, 0xa22448c0bdad5760, 0xa5f80662b6fa8748, 0xa0f9b9ce392f719f}, {0xd723359b485f509b, 0xcb78824f42375111, 0x35bc8cc6e83b1875, 0x0b012846a40f346a}},
		},
	}
	for kind := range want {
		x := made(t, shaped(t, api.Argon2d+kind, 3, 32, 4), 0)
		x.begin(t, head(t, x.s, rfc()...))
		for _, turn := range turns(x.s) {
			for lane := range 4 {
				if e := fill.Segment(x.g, turn, lane); e != api.OK {
					t.Fatal(e)
				}
			}
			if turn.Slice < 3 {
				continue
			}
			a, _ := x.g.Load(place.Spot{})
			b, _ := x.g.Load(place.Spot{Lane: 3, Column: 7})
			if got := [2][4]uint64{[4]uint64(a[:4]), [4]uint64(b[124:])}; got != want[kind][turn.Pass] {
				t.Errorf("kind %d behind pass %d: %x", kind, turn.Pass, got)
			}
		}
	}
}

// tag is Argon2's, of memory that All fills.
func tag(t *testing.T, s shape.Shape, texts ...string) string {
	t.Helper()
	x := made(t, s, s.Passes%3)
	x.begin(t, head(t, s, texts...))
	if e := fill.All(x.g); e != api.OK {
		t.Fatalf("%+v: %d", s, e)
	}
	out, e := x.g.Tag()
	if e != api.OK || len(out) != s.Size {
		t.Errorf("%+v: %d bytes, %d", s, len(out), e)
	}
	for i := s.Blocks; i < x.p.Len(); i++ {
		if *x.p.At(i) != x.blocks[i] {
			t.Errorf("%+v: block %d, behind the shape's, is changed", s, i)
		}
	}
	return out
}

func TestTagsOfRFC(t *testing.T) {
	for kind, want := range []string{
		"512b391b6f1162975371d30919734294f868e3be3984f3c1a13a4db9fabe4acb",
		"c814d9d1dc7f37aa13f0d77f2494bda1c8de6b016dd388d29952a4c4672b6ce8",
		"0d640df58d78766c08c037a34a8b53c9d01ef0452d75b65eb52520e96b01e659",
	} {
		if got := hex.EncodeToString([]byte(tag(t, shaped(t, api.Argon2d+kind, 3, 32, 4), rfc()...))); got != want {
			t.Errorf("kind %d: %s, not %s", kind, got, want)
		}
	}
}

// TestTags: of another Argon2, by their SHA-256.
func TestTags(t *testing.T) {
	for _, c := range []struct {
		secret, data                     string
		alg, passes, memory, lanes, size int
		want                             string
	}{
		{"", "", api.Argon2d, 1, 8, 1, 4, "8c4d1041c444e494d1899ee1d6aa40d655e2e546e58dd87e6faa45879e977d02"},
		{"", "", api.Argon2i, 1, 8, 1, 5, "f5c62f6cb4b3fe9d56fa67189e67b63251c416a64cd39a3c2a2b7051edad5114"},
		{"", "", api.Argon2id, 1, 8, 1, 16, "8bdaab78eecedad220063b21bc04bfe9a20950045101236d60368eaa37150585"},
		{"", "", api.Argon2id, 2, 17, 2, 32, "c592eb4938eda789799dd01c8baa9f611e87baca0d0e95396ad527cd7587ff29"},
		{"key", "", api.Argon2d, 3, 31, 3, 63, "55fbce222aba79c28d14a5dc95309c97399ad45b44d877650e2e81189b455d5c"},
		{"", "data", api.Argon2i, 2, 47, 4, 64, "3fd3bb0c4aba6953707561efb370b59bc175747025a65892dbc07ee695be1871"},
		{"key", "data", api.Argon2id, 1, 100, 5, 65, "5e174a11338a8eb7b0436aec6ad7e1ebc79903773455e108625620185b4486a6"},
		{"", "", api.Argon2d, 2, 113, 7, 96, "a23647e78c7a797caf73b15a123471a0ea0d337ab9810c218d4bd1c5c9044f5f"},
		{"", "", api.Argon2i, 1, 300, 9, 97, "419d388f8eb2b8e72b66795c56b2d5bc865c01c8a3c1a751647733b1b2d768f4"},
		{"", "", api.Argon2id, 2, 271, 16, 128, "59afb952d62c80770577eefa2f0222effa9501a6bb966ebad3048f62df639e0e"},
		{"", "", api.Argon2id, 1, 2040, 255, 24, "b80c35afaceb33449e2be2938d22cd2a7a839204252dada8d972a24810766b7b"},
		{"", "", api.Argon2i, 1, 2056, 257, 31, "168a31ee12403d932f555d45f85adade1fc141031509af8bf3faa31f103e115f"},
		{"", "", api.Argon2d, 1, 2403, 300, 20, "7bf75d59ce23d7c237e5e18d32072024b46dbd052a4f3ad81bd0a70f4e7990b3"},
		{"", "", api.Argon2d, 1, 4800, 600, 32, "272904e0c0c21709cf532d7e0c6b21e238f0c380370e519330f22511080b8f30"},
		{"key", "", api.Argon2id, 3, 600, 1, 512, "bdf704e0d4023ddba6c5159af8a82179a87a21f232168b48cd03a301c1cd742e"},
		{"", "", api.Argon2i, 2, 1100, 2, 1000, "6612c7a24267f971196552e1dabb152655de0b5d8aa1ee0bf52d10a5a3f9b76e"},
		{"", "data", api.Argon2d, 2, 777, 3, 1023, "65cdc6243d19c8d573ac22beac9832387b252afc271f5817f7723b3aa1bb00fc"},
		{"key", "data", api.Argon2id, 4, 1999, 6, 1024, "860a9f32b32c30b6599bbe4782e440bc234f9b719624b33b848ff2e82a5306a4"},
		{"", "", api.Argon2i, 1, 508, 1, 32, "9f9d0f36f22f183e30330e1970ef077645375b11ac7d583c5ca9978e59c397f0"},
		{"", "", api.Argon2i, 1, 512, 1, 32, "29a9e2e37167167392743f36dfd3e2364fcabf2d2fba6512670a8e33edbab3ae"},
		{"", "", api.Argon2i, 1, 516, 1, 32, "5240d05916b4a7b278a1c538d2ab4bc207bccd1327f7588677674984aa9c3a64"},
		{"", "", api.Argon2id, 2, 516, 1, 32, "342e2e482ba11cc2c24ffc206ded8f789786c11d6895624a450c4ff307350429"},
		{"", "", api.Argon2i, 3, 1028, 1, 32, "7571539b135ccf44150e28ac395da1a0f07afdf28f2a8a6b7d359e811b5ab211"},
		{"", "", api.Argon2id, 2, 1032, 1, 32, "aae26ff5440b19c87e4b5dacb3dfe8d9d20439fc7fd4f937f7c179c1c4cd79b6"},
		{"", "", api.Argon2i, 1, 6000, 3, 32, "e73d384d74c7bd21d2856739c7d8bcf111f4260814d979ba8a8baed4e8adcdf1"},
		{"", "", api.Argon2i, 2, 4096, 8, 32, "ab28a7ab01800df29d6f05d56253ede95e8e856b34ac49a0259eadd09f3a3121"},
		{"", "", api.Argon2id, 2, 6001, 3, 32, "959066344e90c1aab9b1a11485bb8dca892c7b79225569924f4757ad974cdbc2"},
		{"", "", api.Argon2id, 4, 4096, 1, 64, "5b01ccbe69db66b37b6fba875bca0e4db6838ebd1d093f4676dc2e1c1814cdd8"},
		{"", "", api.Argon2d, 2, 4099, 4, 32, "536e93f6bb0486839854823f3249f4959ac21368db419fee818d4d3724748db4"},
		{"", "", api.Argon2id, 1, 16384, 2, 32, "54839ee7fa63328c5a22c3189e4fa16b5b9cd0dbc46aff0dfc1cac7dc7da45a1"},
		{"", "", api.Argon2i, 1, 9000, 1, 32, "305a92038d60f6597869e463092ab7cc0bc92cbeb609bff66d31e5b921038949"},
		{"", "", api.Argon2id, 20, 24, 3, 32, "29794d580f280b2a6ee80e255edcfbb2e69af0ea48849e70fc9cade8c1dfd653"},
		{"", "", api.Argon2d, 100, 8, 1, 32, "9d0844afdafd1f71b4c164366fcf1ae3f79c7a60e90e6074853a512f892bb118"},
		{"", "", api.Argon2i, 60, 16, 2, 32, "c30948205060a3a64e37b78208f6dc8467b157371802b1e75083868296f2e6de"},
		{"", "", api.Argon2id, 300, 8, 1, 32, "291e6fcd8d21183b2dc01fdfa02e58512a540436d2b21b4db741e3a2da436b73"},
	} {
		s := sized(t, c.alg, c.passes, c.memory, c.lanes, c.size)
		if got := digest(tag(t, s, "password", "somesalt", c.secret, c.data)); got != c.want {
			t.Errorf("%+v: %s, not %s", s, got, c.want)
		}
	}
}

// P32.4

// TestLanesInAnyOrder: of each turn lane by lane, falling, or in any order.
func TestLanesInAnyOrder(t *testing.T) {
	r := rand.New(rand.NewSource(3204))
	for _, alg := range []int{api.Argon2d, api.Argon2i, api.Argon2id} {
		for _, s := range []shape.Shape{shaped(t, alg, 3, 16, 2), shaped(t, alg, 2, 100, 5), shaped(t, alg, 2, 170, 17), shaped(t, alg, 4, 48, 3)} {
			x := made(t, s, 0)
			x.all()
			for n := range 4 {
				y := made(t, s, 0)
				for _, turn := range turns(s) {
					l := r.Perm(s.Lanes)
					if n == 0 {
						slices.Sort(l)
						slices.Reverse(l)
					}
					for _, lane := range l {
						if e := fill.Segment(y.g, turn, lane); e != api.OK {
							t.Fatal(e)
						}
					}
				}
				y.blocks = x.blocks
				y.stands(t)
			}
		}
	}
}

// TestStepsInAnyOrder: a turn's lanes go on by turns, one block at a time, one of them far ahead of another one.
func TestStepsInAnyOrder(t *testing.T) {
	r := rand.New(rand.NewSource(3205))
	for _, s := range []shape.Shape{shaped(t, api.Argon2d, 3, 60, 3), shaped(t, api.Argon2i, 2, 100, 5), shaped(t, api.Argon2id, 3, 96, 4), shaped(t, api.Argon2id, 2, 1100, 2)} {
		x := made(t, s, 0)
		x.all()
		y := made(t, s, 0)
		for _, turn := range turns(s) {
			next := make([]int, s.Lanes)
			var whose []int
			var sources []*address.Source
			for lane := range next {
				next[lane] = first(turn)
				sources = append(sources, address.New(s, turn, lane))
				whose = append(whose, slices.Repeat([]int{lane}, s.Segment-next[lane])...)
			}
			r.Shuffle(len(whose), func(i, k int) { whose[i], whose[k] = whose[k], whose[i] })
			for _, lane := range whose {
				step, e := fill.Look(y.g, turn, lane, next[lane], sources[lane])
				if e != api.OK {
					t.Fatal(e)
				}
				if e := fill.Fill(y.g, turn, step); e != api.OK {
					t.Fatal(e)
				}
				next[lane]++
			}
		}
		y.blocks = x.blocks
		y.stands(t)
	}
}

// TestAnyCalls: all of the calls in any order, each of them seen, and no block changed beside them.
func TestAnyCalls(t *testing.T) {
	r := rand.New(rand.NewSource(3206))
	for _, s := range some(t) {
		x := made(t, s, 2)
		l, spots := turns(s), x.spots()
		any := func() place.Spot { return spots[r.Intn(len(spots))] }
		for range 40 {
			turn, lane := l[r.Intn(len(l))], r.Intn(s.Lanes)
			switch r.Intn(8) {
			case 0:
				x.all()
				if e := fill.All(x.g); e != api.OK {
					t.Fatal(e)
				}
			case 1, 2:
				x.segment(turn, lane)
				if e := fill.Segment(x.g, turn, lane); e != api.OK {
					t.Fatal(e)
				}
			case 3:
				x.fills(t, turn, fill.Step{At: any(), Before: any(), Refer: any()})
			case 4:
				x.mess(t, r.Int63())
			default:
				if p := (part{turn, lane, s.Segment - 1 - r.Intn(s.Segment-first(turn)+1)}); p.index >= first(turn) {
					x.looks(t, p, x.source(p))
				}
			}
			x.stands(t)
		}
	}
}

// TestTwoAtOnce: grids of two arenas know nothing of one another.
func TestTwoAtOnce(t *testing.T) {
	s := shaped(t, api.Argon2id, 2, 100, 3)
	x, y := made(t, s, 0), made(t, s, 1)
	for n, turn := range turns(s) {
		for lane := range s.Lanes {
			for i, x := range []*rig{x, y} {
				if (n+lane)%2 == i {
					x.segment(turn, lane)
					if e := fill.Segment(x.g, turn, lane); e != api.OK {
						t.Fatal(e)
					}
				}
			}
			x.stands(t)
			y.stands(t)
		}
	}
}

// TestMadeByNobody: of such grids, turns, steps and sources each call ends.
func TestMadeByNobody(t *testing.T) {
	r := rand.New(rand.NewSource(3207))
	s := shaped(t, api.Argon2d, 2, 16, 2)
	x := made(t, s, 4)
	without, _ := grid.New(x.p, s)
	without.Piece = nil
	l := []*grid.Grid{{}, {Piece: x.p}, {Shape: s}, {Piece: &arena.Piece{}}, {Piece: &arena.Piece{}, Shape: s}, without}
	for _, s := range []shape.Shape{
		{Passes: math.MaxInt},
		{Passes: math.MaxInt, Lanes: 1, Columns: 8},
		{Passes: math.MaxInt, Lanes: 1, Columns: 8, Segment: -1},
		{Passes: math.MaxInt, Lanes: math.MaxInt, Columns: 8, Segment: 2},
		{Passes: math.MaxInt, Lanes: math.MaxInt, Columns: 8, Segment: 0},
		{Passes: math.MaxInt, Lanes: 21, Columns: 8, Segment: 2},
		{Passes: math.MaxInt, Lanes: 0, Columns: 8, Segment: 2},
		{Passes: math.MaxInt, Lanes: -1, Columns: 8, Segment: 2},
		{Passes: math.MaxInt, Lanes: math.MinInt, Columns: 8, Segment: 2},
	} {
		g := &grid.Grid{Piece: x.p, Shape: s}
		if e := fill.All(g); e != api.ErrNone {
			t.Errorf("%+v: %d", s, e)
		}
		l = append(l, g)
	}
	numbers := append(far(), 0, 1, 2, 3, 4, 7, 8, 16)
	any := func() int { return numbers[r.Intn(len(numbers))] }
	few := func() int { return r.Intn(5) - 1 }
	for range 3000 {
		g := &grid.Grid{Piece: x.p, Shape: shape.Shape{Alg: few() + 1, Passes: few(), Lanes: any(), Memory: any(), Blocks: any(), Columns: any(), Segment: any(), Size: any()}}
		if r.Intn(3) == 0 {
			g.Lanes, g.Columns, g.Segment = few(), few()*4, few()
		}
		l = append(l, g)
	}
	for _, g := range l {
		if g.Passes < 5 {
			fill.All(g)
		}
		for range 5 {
			turn := shape.Turn{Pass: any(), Slice: any()}
			if r.Intn(2) == 0 {
				turn = shape.Turn{Pass: few(), Slice: few()}
			}
			for _, source := range []*address.Source{nil, {}, address.New(g.Shape, turn, any()), address.New(s, shape.Turn{Slice: any()}, 1)} {
				fill.Numbers(g, turn, any(), any(), source)
				fill.Look(g, turn, any(), any(), source)
				fill.Look(g, turn, few(), few(), source)
			}
			fill.Fill(g, turn, fill.Step{At: place.Spot{Lane: any(), Column: any()}, Before: place.Spot{Lane: few(), Column: few()}, Refer: place.Spot{Lane: few(), Column: any()}})
			fill.Segment(g, turn, any())
			fill.Segment(g, turn, few())
		}
	}
}
