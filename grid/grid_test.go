package grid_test

import (
	"crypto/sha256"
	"encoding/binary"
	"encoding/hex"
	"math"
	"math/rand"
	"strings"
	"testing"

	"pestle/address"
	"pestle/api"
	"pestle/arena"
	"pestle/blake"
	"pestle/blend"
	"pestle/grid"
	"pestle/long"
	"pestle/place"
	"pestle/shape"
)

// sized is the shape of parameters, with a tag of so many bytes.
func sized(t *testing.T, alg, passes, memory, lanes, size int) shape.Shape {
	t.Helper()
	s, e := shape.Of(api.Params{Alg: alg, Time: passes, Memory: memory, Lanes: lanes, Size: size})
	if e != api.OK {
		t.Fatalf("no shape of %d passes, %d blocks, %d lanes, %d bytes: %d", passes, memory, lanes, size, e)
	}
	return s
}

// shaped is the shape of parameters.
func shaped(t *testing.T, alg, passes, memory, lanes int) shape.Shape {
	t.Helper()
	return sized(t, alg, passes, memory, lanes, 32)
}

// some are shapes of each algorithm: the least ones, and some with memory that isn't used.
func some(t *testing.T) []shape.Shape {
	return []shape.Shape{
		shaped(t, api.Argon2d, 1, 8, 1),
		shaped(t, api.Argon2i, 2, 16, 2),
		shaped(t, api.Argon2id, 1, 24, 3),
		shaped(t, api.Argon2id, 3, 37, 2),
		shaped(t, api.Argon2d, 1<<32-1, 100, 3),
		shaped(t, api.Argon2i, 4, 83, 1),
		shaped(t, api.Argon2id, 2, 81, 10),
		shaped(t, api.Argon2d, 1, 360, 17),
	}
}

// far are numbers of no lane and no column; of some of them a block's place wraps around to one that there is.
func far() []int {
	return []int{math.MinInt, math.MinInt + 1, math.MinInt + 8, -1 << 62, -1 << 61, -1 << 60, -1 << 32, -1 << 31, -9, -8, -2, -1, 1 << 31, 1<<32 - 1, 1 << 32, 1<<32 + 1, 1 << 59, 1 << 60, 1<<60 + 1, 1 << 61, 1<<61 + 1, 1 << 62, 1<<62 + 1, math.MaxInt - 7, math.MaxInt - 1, math.MaxInt}
}

// chance is a block of any words.
func chance(r *rand.Rand) api.Block {
	var b api.Block
	for k := range b {
		b[k] = r.Uint64()
	}
	return b
}

// digest is SHA-256's sum of a text, in digits, by which long ones are told apart.
func digest(s string) string {
	b := sha256.Sum256([]byte(s))
	return hex.EncodeToString(b[:])
}

// bytesOf are blocks' words, the lowest byte of each first.
func bytesOf(l ...api.Block) string {
	var b []byte
	for _, x := range l {
		for _, w := range x {
			b = binary.LittleEndian.AppendUint64(b, w)
		}
	}
	return string(b)
}

// counted are numbers of 32 bits, the lowest byte of each first.
func counted(l ...int) string {
	var b []byte
	for _, n := range l {
		b = binary.LittleEndian.AppendUint32(b, uint32(n))
	}
	return string(b)
}

// rig is a grid, what it is made of, and what the piece's blocks are to be.
type rig struct {
	a      *arena.Arena
	p      *arena.Piece
	g      *grid.Grid
	s      shape.Shape
	blocks []api.Block
}

// made is a grid of a shape, of a piece that has some blocks more, any words of which stand in them; another piece is lent ahead of it, and another one behind.
func made(t *testing.T, s shape.Shape, more int) *rig {
	t.Helper()
	n := s.Blocks + more
	a, e := arena.New(n + 5)
	if e != api.OK {
		t.Fatal(e)
	}
	var pieces []*arena.Piece
	for _, n := range []int{2, n, 3} {
		p, e := a.Reserve(n)
		if e != api.OK {
			t.Fatal(e)
		}
		pieces = append(pieces, p)
	}
	r := rand.New(rand.NewSource(int64(n*100 + s.Lanes)))
	x := &rig{a: a, p: pieces[1], s: s}
	for i := range n {
		x.blocks = append(x.blocks, chance(r))
		if e := x.p.Set(i, x.blocks[i]); e != api.OK {
			t.Fatal(e)
		}
	}
	if x.g, e = grid.New(x.p, s); x.g == nil || e != api.OK {
		t.Fatalf("New of %d blocks, %+v: %v, %d", n, s, x.g, e)
	}
	t.Cleanup(func() {
		t.Helper()
		if a.Used() != n+5 && a.Used() != 5 || a.High() != n+5 || !pieces[0].Clean() || !pieces[2].Clean() {
			t.Error("the arena, or another piece of it, is changed")
		}
	})
	return x
}

// at is the block at a lane and a column as it is to be: lanes stand one behind the other.
func (x *rig) at(lane, column int) *api.Block { return &x.blocks[lane*x.s.Columns+column] }

// spots are the lanes and columns that there are, one behind the other.
func (x *rig) spots() []place.Spot {
	var l []place.Spot
	for lane := range x.s.Lanes {
		for column := range x.s.Columns {
			l = append(l, place.Spot{Lane: lane, Column: column})
		}
	}
	return l
}

// holds tells of a piece whose blocks, any of them, are not as they are to be.
func (x *rig) holds(t *testing.T) {
	t.Helper()
	for i, want := range x.blocks {
		if b, e := x.p.Get(i); b != want || e != api.OK {
			t.Fatalf("%+v: block %d of the piece is another one, or %d", x.s, i, e)
		}
	}
}

// stands tells of a piece, or a grid, whose blocks are not as they are to be.
func (x *rig) stands(t *testing.T) {
	t.Helper()
	x.holds(t)
	for _, at := range x.spots() {
		if b, e := x.g.Load(at); b != *x.at(at.Lane, at.Column) || e != api.OK {
			t.Fatalf("%+v: Load(%+v): another block, or %d", x.s, at, e)
		}
	}
}

// store has a block be another one, in the grid and in what is to be.
func (x *rig) store(t *testing.T, at place.Spot, b api.Block) {
	t.Helper()
	if e := x.g.Store(at, b); e != api.OK {
		t.Fatalf("%+v: Store(%+v): %d", x.s, at, e)
	}
	*x.at(at.Lane, at.Column) = b
}

// begin has the first two columns begun, in the grid and in what is to be.
func (x *rig) begin(t *testing.T, head string) {
	t.Helper()
	if e := x.g.Begin(head); e != api.OK {
		t.Fatalf("%+v: Begin: %d", x.s, e)
	}
	for lane := range x.s.Lanes {
		for column := range 2 {
			text := long.Block(head + counted(column) + counted(lane))
			for k := range x.at(lane, column) {
				x.at(lane, column)[k] = binary.LittleEndian.Uint64([]byte(text[8*k:]))
			}
		}
	}
}

// last is the last column's blocks as they are to be, put together word by word.
func (x *rig) last() api.Block {
	var b api.Block
	for lane := range x.s.Lanes {
		for k, w := range x.at(lane, x.s.Columns-1) {
			b[k] ^= w
		}
	}
	return b
}

// ends tells of a grid whose Last and Tag are not what its blocks come to.
func (x *rig) ends(t *testing.T) {
	t.Helper()
	if b, e := x.g.Last(); b != x.last() || e != api.OK {
		t.Fatalf("%+v: Last: another block, or %d", x.s, e)
	}
	want, _ := long.Long(x.s.Size, bytesOf(x.last()))
	if tag, e := x.g.Tag(); tag != want || e != api.OK {
		t.Fatalf("%+v: Tag: %x, %d, not %x", x.s, tag, e, want)
	}
}

// P31.1

// TestNew: a piece of just as many blocks as the shape has, or of more.
func TestNew(t *testing.T) {
	for _, s := range some(t) {
		for _, more := range []int{0, 1, 9, 200} {
			x := made(t, s, more)
			if x.g.Piece != x.p || x.g.Shape != s {
				t.Errorf("%+v: of another piece, or %+v", s, x.g.Shape)
			}
			x.stands(t)
		}
	}
}

// TestNewRefused: blocks count, not the parameters' memory, some of which isn't used.
func TestNewRefused(t *testing.T) {
	a, _ := arena.New(1000)
	for _, s := range some(t) {
		for _, n := range []int{0, 1, s.Lanes, s.Columns - 1, s.Blocks / 2, s.Blocks - 2, s.Blocks - 1} {
			p, _ := a.Reserve(n)
			if g, e := grid.New(p, s); g != nil || e != api.ErrSize {
				t.Errorf("%d blocks, %+v: %v, %d", n, s, g, e)
			}
			if !p.Clean() {
				t.Error("a piece that was refused is changed")
			}
			a.Release(p)
		}
		for _, n := range []int{s.Blocks, s.Memory, s.Memory + 1} {
			p, _ := a.Reserve(n)
			if g, e := grid.New(p, s); g == nil || e != api.OK || !p.Clean() {
				t.Errorf("%d blocks, %+v: %v, %d", n, s, g, e)
			}
			a.Release(p)
		}
		if g, e := grid.New(nil, s); g != nil || e != api.ErrNone {
			t.Errorf("no piece, %+v: %v, %d", s, g, e)
		}
	}
	if a.Used() != 0 {
		t.Error("the arena is changed")
	}
}

func TestNewOfZeroShape(t *testing.T) {
	a, _ := arena.New(100)
	for _, n := range []int{0, 1, 8, 64} {
		p, _ := a.Reserve(n)
		if g, e := grid.New(p, shape.Shape{}); g != nil || e != api.ErrNone {
			t.Errorf("%d blocks: %v, %d", n, g, e)
		}
	}
	if g, e := grid.New(nil, shape.Shape{}); g != nil || e != api.ErrNone {
		t.Errorf("no piece: %v, %d", g, e)
	}
}

// TestExample: of the chapter.
func TestExample(t *testing.T) {
	s := shaped(t, api.Argon2d, 1, 16, 2)
	a, _ := arena.New(31)
	p, _ := a.Reserve(15)
	q, _ := a.Reserve(16)
	if g, e := grid.New(p, shape.Shape{}); g != nil || e != api.ErrNone {
		t.Error(g, e)
	}
	if g, e := grid.New(p, s); g != nil || e != api.ErrSize {
		t.Error(g, e)
	}
	if g, e := grid.New(q, s); g == nil || e != api.OK {
		t.Error(g, e)
	}
}

// TestPlaces: which block of the piece is which lane's, reckoned by hand.
func TestPlaces(t *testing.T) {
	x := made(t, shaped(t, api.Argon2id, 3, 37, 2), 3)
	for _, c := range [][3]int{{0, 0, 0}, {0, 1, 1}, {0, 15, 15}, {1, 0, 16}, {1, 1, 17}, {1, 14, 30}, {1, 15, 31}} {
		at := place.Spot{Lane: c[0], Column: c[1]}
		if b, e := x.g.Load(at); b != x.blocks[c[2]] || e != api.OK {
			t.Errorf("Load(%+v) is not block %d, or %d", at, c[2], e)
		}
		b := api.Block{5, 127: uint64(c[2]) << 56}
		if e := x.g.Store(at, b); e != api.OK {
			t.Errorf("Store(%+v): %d", at, e)
		}
		x.blocks[c[2]] = b
		x.stands(t)
	}
}

func TestStore(t *testing.T) {
	r := rand.New(rand.NewSource(3100))
	for _, s := range some(t) {
		x := made(t, s, 5)
		l := x.spots()
		r.Shuffle(len(l), func(i, k int) { l[i], l[k] = l[k], l[i] })
		for n, at := range l {
			x.store(t, at, chance(r))
			if n%11 == 0 {
				x.stands(t)
			}
		}
		x.stands(t)
	}
}

// TestEachBit: each bit alone, over words that are all 0 and all 1.
func TestEachBit(t *testing.T) {
	x := made(t, shaped(t, api.Argon2d, 1, 8, 1), 1)
	at := place.Spot{Column: 6}
	for bit := range 128 * 64 {
		for _, of := range []uint64{0, math.MaxUint64} {
			var b api.Block
			for k := range b {
				b[k] = of
			}
			b[bit/64] ^= 1 << (bit % 64)
			x.store(t, at, b)
			if got, e := x.g.Load(at); got != b || e != api.OK {
				t.Fatalf("bit %d: another block, or %d", bit, e)
			}
		}
	}
	x.stands(t)
}

// refused tells of a block that is not refused by one error, with nothing beside it.
func refused(t *testing.T, g *grid.Grid, at place.Spot, want api.Errno) {
	t.Helper()
	if b, e := g.Load(at); b != (api.Block{}) || e != want {
		t.Fatalf("Load(%+v): %x, %d, not %d", at, b[:2], e, want)
	}
	if e := g.Store(at, api.Block{5}); e != want {
		t.Fatalf("Store(%+v): %d, not %d", at, e, want)
	}
}

// outside are spots of which a shape has none: about its edges, where another lane's blocks are, and far beyond.
func outside(s shape.Shape) []place.Spot {
	lanes := append(far(), 0, 1, s.Lanes-1, s.Lanes, s.Lanes+1, -s.Lanes, s.Columns, s.Blocks)
	columns := append(far(), 0, 1, s.Columns-1, s.Columns, s.Columns+1, 2*s.Columns-1, -s.Columns, -s.Columns+1, s.Blocks-1, s.Blocks)
	var l []place.Spot
	for _, lane := range lanes {
		for _, column := range columns {
			if lane < 0 || lane >= s.Lanes || column < 0 || column >= s.Columns {
				l = append(l, place.Spot{Lane: lane, Column: column})
			}
		}
	}
	return l
}

// TestNoSuchBlock: where the piece has blocks behind the shape's, too.
func TestNoSuchBlock(t *testing.T) {
	for _, s := range some(t) {
		for _, more := range []int{0, 1, 50, 400} {
			x := made(t, s, more)
			for _, at := range outside(s) {
				refused(t, x.g, at, api.ErrNone)
			}
			x.stands(t)
		}
	}
}

// TestGreat: a grid of so many lanes, or columns, that places are beyond 16 bits; most of its blocks are never looked at.
func TestGreat(t *testing.T) {
	for _, s := range []shape.Shape{shaped(t, api.Argon2d, 1, 8*9000, 9000), shaped(t, api.Argon2d, 1, 70000, 1), shaped(t, api.Argon2d, 1, 80000, 2)} {
		a, _ := arena.New(s.Blocks)
		p, e := a.Reserve(s.Blocks)
		if e != api.OK {
			t.Fatal(e)
		}
		g, e := grid.New(p, s)
		if e != api.OK {
			t.Fatal(e)
		}
		last := place.Spot{Lane: s.Lanes - 1, Column: s.Columns - 1}
		if e := g.Store(last, api.Block{7}); e != api.OK || *p.At(s.Blocks - 1) != (api.Block{7}) {
			t.Errorf("%+v: the last block is another one, or %d", s, e)
		}
		at := place.Spot{Lane: s.Lanes - 1}
		if e := g.Store(at, api.Block{8}); e != api.OK || *p.At(s.Blocks - s.Columns) != (api.Block{8}) {
			t.Errorf("%+v: the last lane's first block is another one, or %d", s, e)
		}
		for i, w := range []place.Spot{last, at} {
			if b, e := g.Load(w); b != (api.Block{7 + uint64(i)}) || e != api.OK {
				t.Errorf("%+v: Load(%+v): %x, %d", s, w, b[0], e)
			}
		}
		for _, at := range outside(s) {
			refused(t, g, at, api.ErrNone)
		}
	}
}

// TestCopies: what is loaded, and what was stored, is the grid's no more.
func TestCopies(t *testing.T) {
	x := made(t, shaped(t, api.Argon2i, 2, 16, 2), 0)
	at := place.Spot{Lane: 1, Column: 3}
	b := api.Block{1, 2, 3}
	x.store(t, at, b)
	clear(b[:])
	x.stands(t)
	b, _ = x.g.Load(at)
	clear(b[:])
	x.stands(t)
	b, _ = x.g.Load(at)
	x.store(t, at, api.Block{9})
	if b != (api.Block{1, 2, 3}) {
		t.Error("what was loaded is changed")
	}
}

// TestPromoted: the piece's own calls, and the shape's, are the grid's, and what is done by one is seen by the other.
func TestPromoted(t *testing.T) {
	x := made(t, shaped(t, api.Argon2id, 3, 37, 2), 4)
	if x.g.Len() != 36 || x.g.At(35) != x.p.At(35) || x.g.At(36) != nil || x.g.Clean() {
		t.Error("another piece")
	}
	if e := x.g.Set(35, api.Block{5}); e != api.OK {
		t.Error(e)
	}
	if b, e := x.g.Get(35); b != (api.Block{5}) || e != api.OK {
		t.Error(b[0], e)
	}
	x.blocks[35] = api.Block{5}
	x.g.At(20)[7] = 99
	x.blocks[20][7] = 99
	x.stands(t)
	x.p.Set(19, api.Block{6})
	x.blocks[19] = api.Block{6}
	x.stands(t)
	fills, e := x.g.Fills()
	if fills != 92 || e != api.OK || x.g.Kind() != 2 || x.g.First(0, 0) != 2 || x.g.Column(2, 3) != 11 || x.g.Before(0) != 15 || x.g.Place(1, 3) != 19 {
		t.Error("another shape")
	}
	if next, ok := x.g.Next(shape.Turn{Slice: 3}); next != (shape.Turn{Pass: 1}) || !ok || !x.g.Has(next) {
		t.Error("other turns")
	}
	if x.g.Alg != api.Argon2id || x.g.Passes != 3 || x.g.Lanes != 2 || x.g.Memory != 37 || x.g.Blocks != 32 || x.g.Columns != 16 || x.g.Segment != 4 || x.g.Size != 32 {
		t.Errorf("%+v", x.g.Shape)
	}
}

// TestTwoGrids: grids of one piece, of unlike shapes, have the same blocks; a block may be the one's and not the other's.
func TestTwoGrids(t *testing.T) {
	x := made(t, shaped(t, api.Argon2d, 1, 48, 2), 0)
	s := shaped(t, api.Argon2i, 3, 36, 3)
	g, e := grid.New(x.p, s)
	if e != api.OK || g == x.g {
		t.Fatal("both are one", e)
	}
	y := *x
	y.g, y.s = g, s
	y.store(t, place.Spot{Lane: 2, Column: 11}, api.Block{4})
	x.stands(t)
	y.begin(t, "head")
	x.stands(t)
	x.store(t, place.Spot{Lane: 1, Column: 20}, api.Block{3})
	y.stands(t)
	x.ends(t)
	y.ends(t)
	refused(t, g, place.Spot{Lane: 1, Column: 20}, api.ErrNone)
	x.stands(t)
}

// barred tells of a grid one call of which is not refused by one error, with nothing beside it.
func barred(t *testing.T, g *grid.Grid, want api.Errno) {
	t.Helper()
	for _, head := range []string{"", "head", strings.Repeat("\xff", 64)} {
		if e := g.Begin(head); e != want {
			t.Errorf("Begin(%q): %d, not %d", head, e, want)
		}
	}
	if b, e := g.Last(); b != (api.Block{}) || e != want {
		t.Errorf("Last: %x, %d, not %d", b[:2], e, want)
	}
	if tag, e := g.Tag(); tag != "" || e != want {
		t.Errorf("Tag: %x, %d, not %d", tag, e, want)
	}
}

// TestTakenBack: the blocks can't be reached; that there is no such lane, or column, is told ahead of it.
func TestTakenBack(t *testing.T) {
	for _, s := range some(t) {
		x := made(t, s, 40)
		if e := x.a.Release(x.p); e != api.OK {
			t.Fatal(e)
		}
		again, e := grid.New(x.p, s)
		if again == nil || e != api.OK {
			t.Fatalf("%+v: a piece that was taken back has no grid: %d", s, e)
		}
		for _, g := range []*grid.Grid{x.g, again} {
			for _, at := range x.spots() {
				refused(t, g, at, api.ErrState)
			}
			for _, at := range outside(s) {
				refused(t, g, at, api.ErrNone)
			}
			barred(t, g, api.ErrState)
		}
		if g, e := grid.New(x.p, shape.Shape{}); g != nil || e != api.ErrNone {
			t.Error(g, e)
		}
		if !x.p.Clean() || x.a.Used() != 5 {
			t.Error("a piece that was taken back is written to, or the arena is changed")
		}
	}
}

func TestNil(t *testing.T) {
	var g *grid.Grid
	for _, lane := range append(far(), 0, 1, 2) {
		for _, column := range append(far(), 0, 1, 2) {
			refused(t, g, place.Spot{Lane: lane, Column: column}, api.ErrNone)
		}
	}
	barred(t, g, api.ErrNone)
}

// TestMadeByNobody: such grids, and grids of such pieces and shapes, end too.
func TestMadeByNobody(t *testing.T) {
	s := shaped(t, api.Argon2d, 1, 16, 2)
	x := made(t, s, 0)
	without, _ := grid.New(x.p, s)
	without.Piece = nil
	l := []*grid.Grid{{}, {Piece: x.p}, {Shape: s}, {Piece: &arena.Piece{}}, {Piece: &arena.Piece{}, Shape: s}, without}
	if g, e := grid.New(&arena.Piece{}, s); g != nil || e != api.ErrSize {
		t.Error(g, e)
	}
	r := rand.New(rand.NewSource(3101))
	numbers := append(far(), 0, 1, 2, 3, 4, 7, 8, 16)
	any := func() int { return numbers[r.Intn(len(numbers))] }
	for range 3000 {
		s := shape.Shape{Alg: any(), Passes: any(), Lanes: any(), Memory: any(), Blocks: any(), Columns: any(), Segment: any(), Size: any()}
		if g, _ := grid.New(x.p, s); g != nil {
			l = append(l, g)
		}
	}
	for _, g := range l {
		for range 5 {
			at := place.Spot{Lane: any(), Column: any()}
			g.Load(at)
			g.Store(at, api.Block{1})
		}
		g.Begin("head")
		g.Last()
		g.Tag()
	}
}

// P31.2

// texts is n bytes of all kinds, by which heads are made.
func texts(n int) string {
	b := make([]byte, n)
	for i := range b {
		b[i] = byte(i*7 + n*31 + i/251)
	}
	return string(b)
}

// head is the 64 bytes that Argon2 begins with.
func head(t *testing.T, s shape.Shape, texts ...string) string {
	t.Helper()
	all := counted(s.Lanes, s.Size, s.Memory, s.Passes, 19, s.Alg-api.Argon2d)
	for _, text := range texts {
		all += counted(len(text)) + text
	}
	h, e := blake.Of(64, "", all)
	if e != api.OK {
		t.Fatal(e)
	}
	return h
}

// rfc are the inputs of RFC 9106's examples.
func rfc() []string {
	return []string{strings.Repeat("\x01", 32), strings.Repeat("\x02", 16), strings.Repeat("\x03", 8), strings.Repeat("\x04", 12)}
}

// TestBeginOfRFC: the blocks that RFC 9106's examples begin with, by their first and last words; the RFC itself tells the first lane's first one.
func TestBeginOfRFC(t *testing.T) {
	for _, c := range []struct {
		alg, lane, column int
		first, last       uint64
	}{
		{api.Argon2d, 0, 0, 0xdb2fea6b2c6f5c8a, 0x8b298b5c367f7b39},
		{api.Argon2d, 0, 1, 0xf7180a33ba9d571c, 0x4924c3dc10d8fd85},
		{api.Argon2d, 1, 0, 0x2e9cc9c3e6b135b3, 0xdde107597004f663},
		{api.Argon2d, 3, 1, 0xf40ac8f5845def30, 0x7d1bc1dd3f23304f},
		{api.Argon2i, 0, 0, 0xf8f9e84545db08f6, 0x4243b9abcf3da44a},
		{api.Argon2i, 0, 1, 0xef764133b4ca7099, 0x2b8ab7d454b17187},
		{api.Argon2i, 1, 0, 0xdc6b6d1adf13ba10, 0x3bd80ab09cfb1139},
		{api.Argon2i, 3, 1, 0x75e219ce652f9e9b, 0x0e35a18383368440},
		{api.Argon2id, 0, 0, 0x6b2e09f10671bd43, 0x8e4dd579ca1c1da0},
		{api.Argon2id, 0, 1, 0xf727b5d2f5c54303, 0xc56325d142c23d49},
		{api.Argon2id, 1, 0, 0x49810a135d23848d, 0xd79461cc07c58a09},
		{api.Argon2id, 3, 1, 0xfffb955af57af90b, 0x7f16a3db08aab211},
	} {
		x := made(t, shaped(t, c.alg, 3, 32, 4), 0)
		if e := x.g.Begin(head(t, x.s, rfc()...)); e != api.OK {
			t.Fatal(e)
		}
		b, e := x.g.Load(place.Spot{Lane: c.lane, Column: c.column})
		if b[0] != c.first || b[127] != c.last || e != api.OK {
			t.Errorf("%+v: %x, %x, %d", c, b[0], b[127], e)
		}
	}
}

// TestBeginKnown: first columns made by another BLAKE2b, lane by lane, by their SHA-256.
func TestBeginKnown(t *testing.T) {
	for _, c := range []struct {
		bytes, lanes int
		sum          string
	}{
		{0, 1, "3475cebde71b4571ec4b6bbd1cc24df05d5ea802d8448ea0ed2591247874030e"},
		{1, 2, "268e1cdf55c150a96df5a95b6f45d756fde231a36f0792dfe1b9aa2c96a0a392"},
		{3, 3, "2a0d846ff629e5104a6635f6be6e0262b55fdc96f838268d16c380345c129bb5"},
		{64, 1, "2168ff6c63995be8b2f1ab15dfee3724b94311b5cd24af2b9053b95ce17b291f"},
		{64, 4, "77d697f203790202d60ab264f38224674c881cc4a598b6c773b602bcf7b9a0b7"},
		{63, 5, "71ba8f52f501aed47db085a1078974eaa7054d9e03fb344cd540052bf02f9807"},
		{65, 7, "d3b13eab8cc57a471c09eab9a307b3e0005fe230dcb6b73c5eecfa942f64764c"},
		{120, 16, "deb0a6cb7a9d263faf91db87d0fa98d1ae6a82a4db5ff28b8a4f272bf9a453e7"},
		{128, 33, "bf33eaa5fa7d940ee51982e79fbfa441fc6c0b501695a384e7e673975fef8901"},
		{1000, 2, "919ac834cdc4b883bdd81bc2b8b504a7a80826769f0637594fb3295bc7438162"},
		{64, 255, "dfc79a232b6e451054bd3d440dba874897db33badce2857eb96d984860bfaf33"},
		{64, 256, "84353e1a38da7c648f34cb2a9066c61ab61fc3324f32fd57ba736164ea756e86"},
		{64, 257, "30334d6c3a4d7b791fa1333e88f688e04575503a5a257b962e91f6f133eea3a8"}, // lanes whose numbers have two bytes
		{64, 600, "18a101c6934d84595a6dc43344a9f50b3e9eb6df991027bb231d8a2e4e769b8f"},
	} {
		for _, memory := range []int{8 * c.lanes, 13 * c.lanes} {
			x := made(t, shaped(t, api.Argon2id, 1, memory, c.lanes), 1)
			if e := x.g.Begin(texts(c.bytes)); e != api.OK {
				t.Fatal(e)
			}
			var l []api.Block
			for lane := range c.lanes {
				for column := range 2 {
					b, _ := x.g.Load(place.Spot{Lane: lane, Column: column})
					l = append(l, b)
				}
			}
			if sum := digest(bytesOf(l...)); sum != c.sum {
				t.Errorf("%d bytes, %d lanes: %s", c.bytes, c.lanes, sum)
			}
		}
	}
}

// TestBegin: the first two columns alone, by the document's words, of heads of many lengths; what stood there doesn't matter.
func TestBegin(t *testing.T) {
	for _, s := range some(t) {
		x := made(t, s, 3)
		for _, n := range []int{64, 0, 1, 7, 8, 59, 60, 61, 128, 1024, 5000, 64} {
			x.begin(t, texts(n))
			x.stands(t)
		}
		x.begin(t, "\x00")
		x.begin(t, "\xff\xfe\x00")
		x.stands(t)
	}
}

// TestBeginOfTheHead: the shape's numbers are none of what the blocks are made of.
func TestBeginOfTheHead(t *testing.T) {
	var want api.Block
	for i, s := range []shape.Shape{shaped(t, api.Argon2d, 1, 16, 2), shaped(t, api.Argon2i, 3, 16, 2), shaped(t, api.Argon2id, 1, 90, 3), sized(t, api.Argon2d, 1, 16, 2, 64)} {
		x := made(t, s, i)
		x.begin(t, "head")
		b, e := x.g.Load(place.Spot{Lane: 1, Column: 1})
		if i == 0 {
			want = b
		}
		if b != want || e != api.OK {
			t.Errorf("%+v counts", s)
		}
	}
}

// TestBegunApart: no two blocks that are begun are alike.
func TestBegunApart(t *testing.T) {
	x := made(t, shaped(t, api.Argon2id, 1, 8*40, 40), 0)
	x.begin(t, "head")
	seen := map[api.Block]place.Spot{}
	for lane := range 40 {
		for column := range 2 {
			at := place.Spot{Lane: lane, Column: column}
			b, _ := x.g.Load(at)
			if other, ok := seen[b]; ok {
				t.Errorf("%+v is %+v", at, other)
			}
			seen[b] = at
		}
	}
}

// P31.3

// TestLast: of blocks of any words, and of words that are all alike; nothing is changed.
func TestLast(t *testing.T) {
	r := rand.New(rand.NewSource(3102))
	for _, s := range some(t) {
		x := made(t, s, 2)
		for range 5 {
			x.ends(t)
			x.stands(t)
			for lane := range s.Lanes {
				x.store(t, place.Spot{Lane: lane, Column: s.Columns - 1}, chance(r))
			}
		}
		for i := range x.blocks {
			x.blocks[i] = api.Block{}
			x.p.Set(i, api.Block{})
		}
		if b, e := x.g.Last(); b != (api.Block{}) || e != api.OK {
			t.Errorf("of blocks 0: %x, %d", b[:2], e)
		}
		x.ends(t)
	}
}

// TestLastEachBit: each bit of each lane's last block counts, and no bit of another block.
func TestLastEachBit(t *testing.T) {
	x := made(t, shaped(t, api.Argon2i, 2, 30, 3), 4)
	for i := range x.blocks {
		for bit := range 128 * 64 {
			b := x.p.At(i)
			was, _ := x.g.Last()
			b[bit/64] ^= 1 << (bit % 64)
			if i == 7 || i == 15 || i == 23 {
				was[bit/64] ^= 1 << (bit % 64)
			}
			if got, e := x.g.Last(); got != was || e != api.OK {
				t.Fatalf("bit %d of block %d: another block, or %d", bit, i, e)
			}
		}
	}
}

// TestLastOfTwo: two lanes' blocks that are alike are gone; one lane's block is itself.
func TestLastOfTwo(t *testing.T) {
	x := made(t, shaped(t, api.Argon2d, 1, 16, 2), 0)
	x.store(t, place.Spot{Lane: 0, Column: 7}, *x.at(1, 7))
	if b, e := x.g.Last(); b != (api.Block{}) || e != api.OK {
		t.Error(b[:2], e)
	}
	x = made(t, shaped(t, api.Argon2d, 1, 8, 1), 0)
	if b, e := x.g.Last(); b != *x.at(0, 7) || e != api.OK {
		t.Error(b[:2], e)
	}
}

// TestTagKnown: tags of blocks by a rule, made by another BLAKE2b, by their SHA-256.
func TestTagKnown(t *testing.T) {
	for _, c := range []struct {
		lanes, size int
		sum         string
	}{
		{1, 4, "a4fb9aae54892668197a42cfd368850d07048f4bcdf035855b24c61f2530f7e4"},
		{1, 32, "94c61e10712c97482cb564b6e01ed6d4ba63758a9d0ce1085540624970bfb98b"},
		{2, 32, "602dfd066c5110cb230d410cd31b47b4a32ed0c4d86989c04ef78b813f505901"},
		{3, 64, "4f83350997c4ed4d708361a579f2cf9fce70108dc09a5af456dc83aabf89a473"},
		{4, 65, "e1831badc356226ae2494dbce616ec8a7ab2aa5cbb8d8c7afb1070a5de8942b3"},
		{5, 5, "c79880c831babca3fc1bace929c68c181b07c8bac9e746dd5be3468b09dc5a36"},
		{7, 63, "be79a5ecc663a1ff3e71fcbfbd571280222e058cd18d3524a1b9a6344036808a"},
		{16, 96, "d1626c2a50bc5ceab61b224a456de8d88ad05583ead659b6f7ffee1bb860b4f1"},
		{17, 97, "197286a8a84f81d957949ddc210ac752777013fc7c21149d778f7f800c5574e0"},
		{33, 128, "52d2b01a23e63c2bf008424cc4d7abbffa4f28abfc428c54833c10f47d94cdb8"},
		{2, 512, "1aa0694947062eb729ce2117e3a256f9c2ef0b0e1e386d38feea7db998cedaab"},
		{3, 1000, "bc35e8f40bd5f9ea6c3e5e25bed61c021fc01940f7c1013b09800e785f0d5fb1"},
		{4, 1023, "07ed60e6047acfafc638612ec2c51608c4bbc9c9c33c433da5040f43b7a775b0"},
		{1, 1024, "5be5b59aa4d6225d3d02a471cb91132409af03d564b01aa79ef958b3fb128d58"},
		{300, 1024, "5efe98ee7941ce56d726ea8b8175245291b5eb271ffbc4c0af9741af1d1c06b5"},
	} {
		x := made(t, sized(t, api.Argon2i, 1, 12*c.lanes, c.lanes, c.size), 0)
		for lane := range c.lanes {
			var b api.Block
			for k := range b {
				b[k] = uint64(lane)*0x9e3779b97f4a7c15 ^ uint64(k+1)*0xbf58476d1ce4e5b9 ^ uint64(k*k)<<40
			}
			x.store(t, place.Spot{Lane: lane, Column: 11}, b)
		}
		tag, e := x.g.Tag()
		if len(tag) != c.size || digest(tag) != c.sum || e != api.OK {
			t.Errorf("%d lanes, %d bytes: %d bytes, %s, %d", c.lanes, c.size, len(tag), digest(tag), e)
		}
	}
}

// TestTag: of all sizes that a tag may have; nothing is changed, and asked again it is the same.
func TestTag(t *testing.T) {
	for size := api.MinTag; size <= api.MaxTag; size++ {
		x := made(t, sized(t, api.Argon2id, 1, 8+size%30, 1, size), 0)
		x.ends(t)
		x.ends(t)
		x.holds(t)
	}
}

// P31.4

// TestAnyOrder: loads, stores, begins and tags in any order, each of them seen, and no block changed beside them.
func TestAnyOrder(t *testing.T) {
	r := rand.New(rand.NewSource(3103))
	for _, s := range some(t) {
		x := made(t, s, 7)
		l := x.spots()
		for n := range 600 {
			at := l[r.Intn(len(l))]
			switch r.Intn(20) {
			case 0:
				x.begin(t, texts(n))
			case 1:
				x.ends(t)
			case 2:
				from := l[r.Intn(len(l))]
				b, _ := x.g.Load(from)
				x.store(t, at, b)
			case 3:
				none := outside(s)
				refused(t, x.g, none[r.Intn(len(none))], api.ErrNone)
			default:
				x.store(t, at, chance(r))
			}
			if b, e := x.g.Load(at); b != *x.at(at.Lane, at.Column) || e != api.OK {
				t.Fatalf("%+v: Load(%+v): another block, or %d", s, at, e)
			}
			if n%20 == 0 {
				x.holds(t)
			}
		}
		x.stands(t)
	}
}

// Known answers: tags of RFC 9106, and of another Argon2, whose memory is a grid.

// numbers are the two by which a block refers to another one.
func numbers(t *testing.T, g *grid.Grid, turn shape.Turn, before place.Spot, index int, x *address.Source) (uint32, uint32) {
	t.Helper()
	if address.Free(g.Shape, turn) {
		return x.At(index)
	}
	return address.Words(loaded(t, g, before)[0])
}

// loaded is a block that there is.
func loaded(t *testing.T, g *grid.Grid, at place.Spot) api.Block {
	t.Helper()
	b, e := g.Load(at)
	if e != api.OK {
		t.Fatalf("%+v, Load(%+v): %d", g.Shape, at, e)
	}
	return b
}

// segment has a lane's blocks of a turn filled.
func segment(t *testing.T, g *grid.Grid, turn shape.Turn, lane int) {
	t.Helper()
	x := address.New(g.Shape, turn, lane)
	for index := g.First(turn.Pass, turn.Slice); index < g.Segment; index++ {
		here := place.Spot{Lane: lane, Column: g.Column(turn.Slice, index)}
		before := place.Spot{Lane: lane, Column: g.Before(here.Column)}
		j1, j2 := numbers(t, g, turn, before, index, x)
		of, e := place.Of(g.Shape, turn, lane, index, j1, j2)
		if e != api.OK {
			t.Fatalf("%+v, %+v: %+v refers to none: %d", g.Shape, turn, here, e)
		}
		var old api.Block
		if turn.Pass > 0 {
			old = loaded(t, g, here)
		}
		if e := g.Store(here, blend.Over(loaded(t, g, before), loaded(t, g, of), old)); e != api.OK {
			t.Fatalf("%+v, Store(%+v): %d", g.Shape, here, e)
		}
	}
}

// tag is Argon2's, its lanes filled in any order within a turn.
func tag(t *testing.T, s shape.Shape, r *rand.Rand, texts ...string) string {
	t.Helper()
	x := made(t, s, r.Intn(3))
	if e := x.g.Begin(head(t, s, texts...)); e != api.OK {
		t.Fatal(e)
	}
	for turn, ok := (shape.Turn{}), true; ok; turn, ok = x.g.Next(turn) {
		for _, lane := range r.Perm(x.g.Lanes) {
			segment(t, x.g, turn, lane)
		}
	}
	for i := s.Blocks; i < x.p.Len(); i++ {
		if *x.p.At(i) != x.blocks[i] {
			t.Errorf("%+v: block %d, behind the shape's, is changed", s, i)
		}
	}
	out, e := x.g.Tag()
	if e != api.OK || len(out) != s.Size {
		t.Errorf("%+v: %d bytes, %d", s, len(out), e)
	}
	return out
}

func TestKnownOfRFC(t *testing.T) {
	r := rand.New(rand.NewSource(3104))
	for i, want := range []string{
		"512b391b6f1162975371d30919734294f868e3be3984f3c1a13a4db9fabe4acb",
		"c814d9d1dc7f37aa13f0d77f2494bda1c8de6b016dd388d29952a4c4672b6ce8",
		"0d640df58d78766c08c037a34a8b53c9d01ef0452d75b65eb52520e96b01e659",
	} {
		if got := hex.EncodeToString([]byte(tag(t, shaped(t, api.Argon2d+i, 3, 32, 4), r, rfc()...))); got != want {
			t.Errorf("kind %d: %s, not %s", i, got, want)
		}
	}
}

// TestKnown: tags of another Argon2, by their SHA-256, of many lanes and of sizes about the ends of its sums.
func TestKnown(t *testing.T) {
	r := rand.New(rand.NewSource(3105))
	for _, c := range []struct {
		secret, data                   string
		alg, time, memory, lanes, size int
		want                           string
	}{
		{"", "", api.Argon2d, 1, 8, 1, 4, "8c4d1041c444e494d1899ee1d6aa40d655e2e546e58dd87e6faa45879e977d02"},
		{"", "", api.Argon2i, 1, 8, 1, 5, "f5c62f6cb4b3fe9d56fa67189e67b63251c416a64cd39a3c2a2b7051edad5114"},
		{"", "", api.Argon2id, 1, 8, 1, 16, "8bdaab78eecedad220063b21bc04bfe9a20950045101236d60368eaa37150585"},
		{"", "", api.Argon2id, 2, 17, 2, 32, "c592eb4938eda789799dd01c8baa9f611e87baca0d0e95396ad527cd7587ff29"},
		{"key", "", api.Argon2d, 3, 31, 3, 63, "55fbce222aba79c28d14a5dc95309c97399ad45b44d877650e2e81189b455d5c"},
		{"", "data", api.Argon2i, 2, 47, 4, 64, "3fd3bb0c4aba6953707561efb370b59bc175747025a65892dbc07ee695be1871"},
		{"key", "data", api.Argon2id, 1, 100, 5, 65, "5e174a11338a8eb7b0436aec6ad7e1ebc79903773455e108625620185b4486a6"},
		{"", "", api.Argon2d, 2, 113, 7, 96, "a23647e78c7a797caf73b15a123471a0ea0d337ab9810c218d4bd1c5c9044f5f"},
		{"", "", api.Argon2i, 1, 300, 9, 97, "419d388f8eb2b8e72b66795c56b2d5bc865c01c8a3c1a751647733b1b2d768f4"},
		{"", "", api.Argon2id, 2, 271, 16, 128, "59afb952d62c80770577eefa2f0222effa9501a6bb966ebad3048f62df639e0e"},
		{"", "", api.Argon2d, 1, 264, 33, 33, "4be339b111f5c4afa3382868a4fab3b57d61366231c8fb94d4263d1487698e44"},
		{"", "", api.Argon2id, 1, 2040, 255, 24, "b80c35afaceb33449e2be2938d22cd2a7a839204252dada8d972a24810766b7b"},
		{"", "", api.Argon2i, 1, 2048, 256, 31, "2773ca212192cf18c42ee6b799e50d9254daf558960cae1344dce6f88d697649"},
		{"", "", api.Argon2id, 1, 2056, 257, 129, "fed9bb75c4a4baaf747352a493ca5507fe453e8bbc9e15f7abe0aed4d39aa8a6"},
		{"", "", api.Argon2d, 1, 2403, 300, 20, "7bf75d59ce23d7c237e5e18d32072024b46dbd052a4f3ad81bd0a70f4e7990b3"},
		{"key", "", api.Argon2id, 3, 600, 1, 512, "bdf704e0d4023ddba6c5159af8a82179a87a21f232168b48cd03a301c1cd742e"},
		{"", "", api.Argon2i, 2, 1100, 2, 1000, "6612c7a24267f971196552e1dabb152655de0b5d8aa1ee0bf52d10a5a3f9b76e"},
		{"", "data", api.Argon2d, 2, 777, 3, 1023, "65cdc6243d19c8d573ac22beac9832387b252afc271f5817f7723b3aa1bb00fc"},
		{"key", "data", api.Argon2id, 4, 1999, 6, 1024, "860a9f32b32c30b6599bbe4782e440bc234f9b719624b33b848ff2e82a5306a4"},
	} {
		s := sized(t, c.alg, c.time, c.memory, c.lanes, c.size)
		if got := digest(tag(t, s, r, "password", "somesalt", c.secret, c.data)); got != c.want {
			t.Errorf("%+v: %s, not %s", s, got, c.want)
		}
	}
}
