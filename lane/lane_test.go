package lane_test

import (
	"crypto/sha256"
	"encoding/hex"
	"math"
	"math/rand"
	"slices"
	"strings"
	"testing"

	"pestle/address"
	"pestle/api"
	"pestle/arena"
	"pestle/argon"
	"pestle/fill"
	"pestle/grid"
	"pestle/lane"
	"pestle/place"
	"pestle/shape"
)

// shaped is the shape of parameters.
func shaped(t *testing.T, alg, passes, memory, lanes int) shape.Shape {
	t.Helper()
	s, e := shape.Of(api.Params{Alg: alg, Time: passes, Memory: memory, Lanes: lanes, Size: 32})
	if e != api.OK {
		t.Fatalf("no shape of %d passes, %d blocks, %d lanes: %d", passes, memory, lanes, e)
	}
	return s
}

// few are small shapes of each algorithm: the least one, whose first turn has nothing to fill, one with memory that isn't used, and some of several passes.
func few(t *testing.T) []shape.Shape {
	var l []shape.Shape
	for _, alg := range []int{api.Argon2d, api.Argon2i, api.Argon2id} {
		l = append(l,
			shaped(t, alg, 1, 8, 1),
			shaped(t, alg, 3, 16, 2),
			shaped(t, alg, 2, 37, 2),
			shaped(t, alg, 4, 23, 1),
			shaped(t, alg, 2, 60, 5),
		)
	}
	return l
}

// some are these, and some whose segments have more than a block of addresses.
func some(t *testing.T) []shape.Shape {
	return append(few(t), shaped(t, api.Argon2d, 2, 540, 1), shaped(t, api.Argon2i, 2, 1100, 2), shaped(t, api.Argon2id, 2, 1050, 1))
}

// far are numbers of no lane, and at the edges of their kind.
func far() []int {
	return []int{math.MinInt, math.MinInt + 1, -1 << 62, -1 << 32, -1 << 31, -9, -8, -2, -1, 1 << 31, 1<<32 - 1, 1 << 32, 1<<32 + 1, 1 << 61, 1 << 62, math.MaxInt - 1, math.MaxInt}
}

// rig is a grid, and what it is made of.
type rig struct {
	a *arena.Arena
	p *arena.Piece
	g *grid.Grid
	s shape.Shape
}

// made is a grid of a shape, of a piece that has some blocks more; the same words stand in all of one seed.
func made(t *testing.T, s shape.Shape, more int, seed int64) *rig {
	t.Helper()
	n := s.Blocks + more
	a, e := arena.New(n)
	if e != api.OK {
		t.Fatal(e)
	}
	x := &rig{a: a, s: s}
	if x.p, e = a.Reserve(n); e != api.OK {
		t.Fatal(e)
	}
	if x.g, e = grid.New(x.p, s); e != api.OK {
		t.Fatalf("grid.New of %d blocks, %+v: %d", n, s, e)
	}
	x.mess(rand.New(rand.NewSource(seed)))
	return x
}

// mess has any words stand in the piece's blocks.
func (x *rig) mess(r *rand.Rand) {
	for i := range x.p.Len() {
		var b api.Block
		for k := range b {
			b[k] = r.Uint64()
		}
		x.p.Set(i, b)
	}
}

// blocks are the piece's, as they stand.
func (x *rig) blocks() []api.Block {
	var l []api.Block
	for i := range x.p.Len() {
		b, _ := x.p.Get(i)
		l = append(l, b)
	}
	return l
}

// part is one step that a lane is to do.
type part struct {
	kind  int
	turn  shape.Turn
	index int
}

// parts are all that a lane is to do, one behind the other.
func parts(s shape.Shape) []part {
	var l []part
	for pass := range s.Passes {
		for slice := range 4 {
			turn := shape.Turn{Pass: pass, Slice: slice}
			for index := range s.Segment {
				if pass > 0 || slice > 0 || index > 1 {
					l = append(l, part{1, turn, index}, part{2, turn, index})
				}
			}
			l = append(l, part{3, turn, s.Segment})
		}
	}
	return l
}

// mate is a lane as it is to be: what it does it does by fill's calls, to a grid of its own.
type mate struct {
	x      *rig
	number int
	turn   shape.Turn
	rest   []part
	held   fill.Step
	waits  bool
}

// next does the next step, and tells it.
func (m *mate) next(t *testing.T) lane.Event {
	t.Helper()
	p := m.rest[0]
	m.rest = m.rest[1:]
	out := lane.Event{Kind: p.kind, Lane: m.number, Turn: p.turn}
	e := api.OK
	switch p.kind {
	case 1:
		m.held, e = fill.Look(m.x.g, p.turn, m.number, p.index, address.New(m.x.s, p.turn, m.number))
	case 2:
		e = fill.Fill(m.x.g, p.turn, m.held)
	case 3:
		m.waits = true
		return out
	}
	if e != api.OK {
		t.Fatalf("%+v, %+v: %d", m.x.s, p, e)
	}
	out.At = place.Spot{Lane: m.number, Column: p.turn.Slice*m.x.s.Segment + p.index}
	out.Refer = m.held.Refer
	return out
}

// open has it go on, if it waits.
func (m *mate) open() bool {
	was := m.waits
	m.waits = false
	if was && len(m.rest) > 0 {
		m.turn = m.rest[0].turn
	}
	return was
}

func (m *mate) done() bool { return !m.waits && len(m.rest) == 0 }

// pair is lanes over a grid, and as many mates over another one of the same words.
type pair struct {
	x, y  *rig
	lanes []*lane.Lane
	mates []*mate
}

// paired is a pair of lanes of some numbers; of none, of each that there is.
func paired(t *testing.T, s shape.Shape, numbers ...int) *pair {
	t.Helper()
	if len(numbers) == 0 {
		for n := range s.Lanes {
			numbers = append(numbers, n)
		}
	}
	q := &pair{x: made(t, s, 2, 34), y: made(t, s, 2, 34)}
	for _, n := range numbers {
		l, e := lane.New(q.x.g, n)
		if l == nil || e != api.OK {
			t.Fatalf("%+v: New of lane %d: %v, %d", s, n, l, e)
		}
		q.lanes = append(q.lanes, l)
		q.mates = append(q.mates, &mate{x: q.y, number: n, rest: parts(s)})
	}
	q.stands(t)
	return q
}

// stands tells of a lane that stands otherwise than its mate.
func (q *pair) stands(t *testing.T) {
	t.Helper()
	for i, l := range q.lanes {
		m := q.mates[i]
		if l.Number() != m.number || l.Turn() != m.turn || l.Waits() != m.waits || l.Done() != m.done() {
			t.Fatalf("%+v: lane %d is %d, in %+v, waits %v, done %v, not %d, %+v, %v, %v", q.x.s, i, l.Number(), l.Turn(), l.Waits(), l.Done(), m.number, m.turn, m.waits, m.done())
		}
	}
}

// same tells of blocks that are other ones in the two grids.
func (q *pair) same(t *testing.T) {
	t.Helper()
	for i := range q.x.p.Len() {
		if *q.x.p.At(i) != *q.y.p.At(i) {
			t.Fatalf("%+v: block %d is another one", q.x.s, i)
		}
	}
}

// refused tells of a lane whose Step isn't refused by one error, with nothing beside it, and with nothing changed.
func (q *pair) refused(t *testing.T, i int, want api.Errno) {
	t.Helper()
	for range 2 {
		if got, e := q.lanes[i].Step(); got != (lane.Event{}) || e != want {
			t.Fatalf("%+v, lane %d in %+v: %+v, %d, not %d", q.x.s, i, q.lanes[i].Turn(), got, e, want)
		}
		q.stands(t)
	}
}

// step has a lane, and its mate, do a step.
func (q *pair) step(t *testing.T, i int) lane.Event {
	t.Helper()
	l, m := q.lanes[i], q.mates[i]
	if l.Open() {
		t.Fatalf("%+v: lane %d in %+v is opened, and didn't wait", q.x.s, i, l.Turn())
	}
	q.stands(t)
	want := m.next(t)
	got, e := l.Step()
	if got != want || e != api.OK {
		t.Fatalf("%+v, lane %d: %+v, %d, not %+v", q.x.s, i, got, e, want)
	}
	a, _ := q.x.g.Load(got.At)
	if b, _ := q.y.g.Load(got.At); a != b {
		t.Fatalf("%+v, lane %d: another block behind %+v", q.x.s, i, got)
	}
	q.stands(t)
	return got
}

// open lets a lane that waits go on, and its mate.
func (q *pair) open(t *testing.T, i int) {
	t.Helper()
	if a, b := q.lanes[i].Open(), q.mates[i].open(); a != b {
		t.Fatalf("%+v, lane %d: Open is %v, not %v", q.x.s, i, a, b)
	}
	q.stands(t)
}

// able are the places of those that neither wait nor are done.
func (q *pair) able() []int {
	var l []int
	for i, m := range q.mates {
		if !m.waits && !m.done() {
			l = append(l, i)
		}
	}
	return l
}

// P34.1

func TestNew(t *testing.T) {
	for _, s := range some(t) {
		x := made(t, s, 3*s.Columns, 1) // blocks behind the shape's are no lane's
		was := x.blocks()
		for number := range s.Lanes {
			l, e := lane.New(x.g, number)
			if l == nil || e != api.OK {
				t.Fatalf("%+v, lane %d: %v, %d", s, number, l, e)
			}
			if l.Number() != number || l.Turn() != (shape.Turn{}) || l.Waits() || l.Done() || l.Open() {
				t.Errorf("%+v, lane %d: %d, %+v, %v, %v", s, number, l.Number(), l.Turn(), l.Waits(), l.Done())
			}
			if again, e := lane.New(x.g, number); again == l || e != api.OK {
				t.Errorf("%+v, lane %d: the same lane again, or %d", s, number, e)
			}
		}
		for _, number := range append(far(), s.Lanes, s.Lanes+1, s.Lanes+2, s.Columns, s.Blocks) {
			if number >= 0 && number < s.Lanes {
				continue
			}
			if l, e := lane.New(x.g, number); l != nil || e != api.ErrNone {
				t.Errorf("%+v, lane %d: %v, %d", s, number, l, e)
			}
		}
		if !slices.Equal(x.blocks(), was) || x.a.Used() != x.p.Len() || x.a.Lent() != 1 {
			t.Errorf("%+v: blocks are changed, lent or taken back", s)
		}
	}
}

func TestNewOfNoGrid(t *testing.T) {
	for _, number := range append(far(), 0, 1, 2) {
		if l, e := lane.New(nil, number); l != nil || e != api.ErrNone {
			t.Errorf("lane %d: %v, %d", number, l, e)
		}
	}
}

// TestNewOfTakenBack: a lane is one of the grid, whose piece isn't asked.
func TestNewOfTakenBack(t *testing.T) {
	x := made(t, shaped(t, api.Argon2d, 1, 16, 2), 0, 1)
	x.a.Release(x.p)
	if l, e := lane.New(x.g, 1); l.Number() != 1 || e != api.OK {
		t.Errorf("%d, %d", l.Number(), e)
	}
	if l, e := lane.New(x.g, 2); l != nil || e != api.ErrNone {
		t.Errorf("%v, %d", l, e)
	}
}

func TestNil(t *testing.T) {
	var l *lane.Lane
	for range 2 {
		if l.Number() != 0 || l.Turn() != (shape.Turn{}) || l.Waits() || !l.Done() || l.Open() {
			t.Errorf("%d, %+v, %v, %v", l.Number(), l.Turn(), l.Waits(), l.Done())
		}
		if got, e := l.Step(); got != (lane.Event{}) || e != api.ErrNone {
			t.Errorf("%+v, %d", got, e)
		}
	}
}

func TestKinds(t *testing.T) {
	if lane.Look != 1 || lane.Fill != 2 || lane.Arrive != 3 {
		t.Error(lane.Look, lane.Fill, lane.Arrive)
	}
}

// P34.2, P34.3

// written is a block that is looked at, and filled, in a turn, and to which it refers; or, by no column, an arrival.
type written struct{ pass, slice, column, referLane, referColumn int }

// events are those of a lane.
func (w written) events(number int) []lane.Event {
	turn := shape.Turn{Pass: w.pass, Slice: w.slice}
	if w.column < 0 {
		return []lane.Event{{Kind: 3, Lane: number, Turn: turn}}
	}
	look := lane.Event{Kind: 1, Lane: number, Turn: turn, At: place.Spot{Lane: number, Column: w.column}, Refer: place.Spot{Lane: w.referLane, Column: w.referColumn}}
	fill := look
	fill.Kind = 2
	return []lane.Event{look, fill}
}

// TestWrittenOut: of blocks whose words are 0 the numbers are 0: each refers to the last one that it may refer to, of lane 0, but in the first turn.
func TestWrittenOut(t *testing.T) {
	for _, c := range []struct {
		passes, memory, lanes, number int
		want                          []written
	}{
		{1, 8, 1, 0, []written{
			{0, 0, -1, 0, 0},
			{0, 1, 2, 0, 0}, {0, 1, 3, 0, 1}, {0, 1, -1, 0, 0},
			{0, 2, 4, 0, 2}, {0, 2, 5, 0, 3}, {0, 2, -1, 0, 0},
			{0, 3, 6, 0, 4}, {0, 3, 7, 0, 5}, {0, 3, -1, 0, 0},
		}},
		{2, 24, 2, 1, []written{
			{0, 0, 2, 1, 0}, {0, 0, -1, 0, 0},
			{0, 1, 3, 0, 1}, {0, 1, 4, 0, 2}, {0, 1, 5, 0, 2}, {0, 1, -1, 0, 0},
			{0, 2, 6, 0, 4}, {0, 2, 7, 0, 5}, {0, 2, 8, 0, 5}, {0, 2, -1, 0, 0},
			{0, 3, 9, 0, 7}, {0, 3, 10, 0, 8}, {0, 3, 11, 0, 8}, {0, 3, -1, 0, 0},
			{1, 0, 0, 0, 10}, {1, 0, 1, 0, 11}, {1, 0, 2, 0, 11}, {1, 0, -1, 0, 0},
			{1, 1, 3, 0, 1}, {1, 1, 4, 0, 2}, {1, 1, 5, 0, 2}, {1, 1, -1, 0, 0},
			{1, 2, 6, 0, 4}, {1, 2, 7, 0, 5}, {1, 2, 8, 0, 5}, {1, 2, -1, 0, 0},
			{1, 3, 9, 0, 7}, {1, 3, 10, 0, 8}, {1, 3, 11, 0, 8}, {1, 3, -1, 0, 0},
		}},
	} {
		x := made(t, shaped(t, api.Argon2d, c.passes, c.memory, c.lanes), 0, 1)
		for i := range x.p.Len() {
			x.p.Set(i, api.Block{})
		}
		l, _ := lane.New(x.g, c.number)
		for _, w := range c.want {
			for _, want := range w.events(c.number) {
				arrives := want.Kind == 3
				if got, e := l.Step(); got != want || e != api.OK {
					t.Fatalf("%d lanes: %+v, %d, not %+v", c.lanes, got, e, want)
				}
				if l.Turn() != want.Turn || l.Waits() != arrives || l.Done() {
					t.Fatalf("%d lanes, behind %+v: %+v, %v, %v", c.lanes, want, l.Turn(), l.Waits(), l.Done())
				}
				if l.Open() != arrives || l.Waits() {
					t.Fatalf("%d lanes, behind %+v: it is opened, or isn't", c.lanes, want)
				}
			}
		}
		if !l.Done() || l.Open() {
			t.Errorf("%d lanes: it isn't done, or is opened", c.lanes)
		}
	}
}

// TestAlone: each lane by itself, opened as soon as it waits; of each step the event, how the lane stands, and what has become of all blocks, now and then of the many.
func TestAlone(t *testing.T) {
	for _, s := range some(t) {
		for number := range s.Lanes {
			q := paired(t, s, number)
			for n := 0; !q.mates[0].done(); n++ {
				got := q.step(t, 0)
				if s.Blocks < 100 || n%50 < 2 {
					q.same(t)
				}
				if got.Kind == lane.Arrive {
					q.refused(t, 0, api.ErrWait)
					q.open(t, 0)
				}
			}
			q.refused(t, 0, api.ErrState)
			q.open(t, 0)
			q.refused(t, 0, api.ErrState)
			q.same(t)
		}
	}
}

// TestHeld: what was looked at is filled, whatever has become of the blocks since; what is looked at is the blocks as they stand.
func TestHeld(t *testing.T) {
	a, b := rand.New(rand.NewSource(3401)), rand.New(rand.NewSource(3401))
	for _, s := range few(t) {
		q := paired(t, s, s.Lanes-1)
		for !q.mates[0].done() {
			q.step(t, 0)
			q.same(t)
			q.open(t, 0)
			q.x.mess(a)
			q.y.mess(b)
		}
	}
}

// TestAnyOrder: some lanes of one grid, two of them of one number, each of which goes on as it pleases, opened at once, or late, or ahead of all others.
func TestAnyOrder(t *testing.T) {
	r := rand.New(rand.NewSource(3402))
	for _, s := range some(t) {
		q := paired(t, s, s.Lanes-1, 0, s.Lanes-1, s.Lanes/2)
		for n := 0; ; n++ {
			if l := q.able(); len(l) > 0 {
				q.step(t, l[min(r.Intn(len(l)), r.Intn(len(l)))])
			}
			i := r.Intn(len(q.lanes))
			switch m := q.mates[i]; {
			case m.done():
				q.refused(t, i, api.ErrState)
			case m.waits:
				q.refused(t, i, api.ErrWait)
				q.open(t, i)
			}
			if n%50 == 0 {
				q.same(t)
			}
			if !slices.ContainsFunc(q.mates, func(m *mate) bool { return !m.done() }) {
				break
			}
		}
		q.same(t)
	}
}

// hides has the grid have no piece, one that is too short, or one that was taken back, while something is done; it tells the error that is to be.
func (x *rig) hides(n int, do func(want api.Errno)) {
	a, _ := arena.New(1 << 12)
	l := []*arena.Piece{nil, nil, nil}
	l[1], _ = a.Reserve(0)
	l[2], _ = a.Reserve(x.p.Len())
	a.Release(l[2])
	x.g.Piece = l[n%3]
	do([]api.Errno{api.ErrNone, api.ErrNone, api.ErrState}[n%3])
	x.g.Piece = x.p
}

// free tells whether a turn's addresses hang on no block.
func free(s shape.Shape, turn shape.Turn) bool {
	return s.Alg == api.Argon2i || s.Alg == api.Argon2id && turn.Pass == 0 && turn.Slice < 2
}

// TestErrors: of each Look, and each Fill, whose blocks can't be loaded for some time: the error is told, and behind it the lane goes on as if nothing had been.
func TestErrors(t *testing.T) {
	for _, s := range few(t) {
		q := paired(t, s, s.Lanes-1)
		for n := 0; !q.mates[0].done(); n++ {
			p := q.mates[0].rest[0]
			switch {
			case p.kind == 3: // it asks nothing of the piece
			case p.kind == 1 && free(s, p.turn): // nor does it here, but the turn may be none of the shape's any more
				q.x.g.Passes = p.turn.Pass
				q.refused(t, 0, api.ErrNone)
				q.x.g.Passes = s.Passes
			default:
				q.x.hides(n/2, func(want api.Errno) { q.refused(t, 0, want) })
			}
			q.step(t, 0)
			q.same(t)
			q.open(t, 0)
		}
	}
}

// TestOrderOfErrors: whether it is done, or waits, is told ahead of what its blocks are; to arrive, and to be opened, no block is asked.
func TestOrderOfErrors(t *testing.T) {
	for _, s := range few(t) {
		q := paired(t, s, 0)
		for n := 0; !q.mates[0].done(); n++ {
			if q.mates[0].rest[0].kind < 3 {
				q.step(t, 0)
				continue
			}
			q.x.hides(n, func(api.Errno) {
				q.lanes[0].Step()
				q.mates[0].next(t)
				q.stands(t)
				q.refused(t, 0, api.ErrWait)
				q.open(t, 0)
				if q.mates[0].done() {
					q.refused(t, 0, api.ErrState)
				}
			})
		}
		q.same(t)
	}
}

// TestTakenBack: from any step on the piece is no longer lent; it goes on as far as no block is needed, and stays there.
func TestTakenBack(t *testing.T) {
	for _, s := range few(t) {
		for steps := range parts(s) {
			q := paired(t, s, 0)
			for range steps {
				q.step(t, 0)
				q.open(t, 0)
			}
			if e := q.x.a.Release(q.x.p); e != api.OK {
				t.Fatal(e)
			}
			for !q.mates[0].done() {
				p := q.mates[0].rest[0]
				if p.kind == 2 || p.kind == 1 && !free(s, p.turn) {
					q.refused(t, 0, api.ErrState)
					break
				}
				want := q.mates[0].next(t)
				if got, e := q.lanes[0].Step(); got != want || e != api.OK {
					t.Fatalf("%+v: %+v, %d, not %+v", s, got, e, want)
				}
				q.open(t, 0)
			}
			if !q.x.p.Clean() {
				t.Fatal("a piece that was taken back is written to")
			}
		}
	}
}

// TestTwoGrids: lanes of two grids know nothing of one another.
func TestTwoGrids(t *testing.T) {
	r := rand.New(rand.NewSource(3403))
	s, other := shaped(t, api.Argon2id, 2, 37, 2), shaped(t, api.Argon2d, 3, 40, 3)
	l := []*pair{paired(t, s, 1), paired(t, s, 1), paired(t, other, 1)}
	for range 2000 {
		q := l[r.Intn(len(l))]
		q.open(t, 0)
		if len(q.able()) > 0 {
			q.step(t, 0)
		}
	}
	for _, q := range l {
		q.same(t)
		if !q.lanes[0].Done() {
			t.Error("it isn't done")
		}
	}
}

// TestExample: of the chapter, and some more.
func TestExample(t *testing.T) {
	if l, e := lane.New(nil, 0); l != nil || !l.Done() || e != api.ErrNone {
		t.Error(l, e)
	}
	q := paired(t, shaped(t, api.Argon2d, 1, 16, 1))
	for range 4 {
		q.step(t, 0)
	}
	if got := q.step(t, 0); got != (lane.Event{Kind: lane.Arrive}) || !q.lanes[0].Waits() {
		t.Error(got)
	}
	q.refused(t, 0, api.ErrWait)
	if !q.lanes[0].Open() || q.lanes[0].Open() || q.lanes[0].Waits() || q.lanes[0].Turn() != (shape.Turn{Slice: 1}) {
		t.Error("it isn't opened once")
	}
}

// P34.4

// TestCounts: of a lane that is opened whenever it waits: just its blocks are filled, once a pass, in order, each in two steps, one behind the other; it arrives four times a pass.
func TestCounts(t *testing.T) {
	for _, s := range some(t) {
		for _, number := range []int{0, s.Lanes - 1} {
			x := made(t, s, 0, 5)
			l, _ := lane.New(x.g, number)
			var columns []int
			kinds := map[int]int{}
			last := lane.Event{}
			for steps := 0; !l.Done(); steps++ {
				got, e := l.Step()
				if e != api.OK || steps > 3*s.Passes*s.Columns {
					t.Fatalf("%+v: %d behind %d steps", s, e, steps)
				}
				kinds[got.Kind]++
				switch got.Kind {
				case lane.Arrive:
					l.Open()
				case lane.Fill:
					columns = append(columns, got.At.Column)
					if last.Kind = lane.Fill; got != last || got.At.Lane != number {
						t.Fatalf("%+v: %+v behind %+v", s, got, last)
					}
				}
				last = got
			}
			var want []int
			for range s.Passes {
				for column := range s.Columns {
					want = append(want, column)
				}
			}
			if !slices.Equal(columns, want[2:]) {
				t.Errorf("%+v: other columns: %v", s, columns)
			}
			fills, _ := s.Fills()
			if n := fills / s.Lanes; kinds[1] != n || kinds[2] != n || kinds[3] != 4*s.Passes || len(kinds) != 3 {
				t.Errorf("%+v: %v, not %d", s, kinds, n)
			}
		}
	}
}

// filler has all lanes go on, by choices of those that are able, and opens all once all wait.
func filler(t *testing.T, choose func(n int) int) argon.Filler {
	return func(g *grid.Grid) api.Errno {
		var l []*lane.Lane
		for number := range g.Lanes {
			x, e := lane.New(g, number)
			if e != api.OK {
				return e
			}
			l = append(l, x)
		}
		for steps := 0; ; steps++ {
			var able []*lane.Lane
			for _, x := range l {
				if !x.Waits() && !x.Done() {
					able = append(able, x)
				}
			}
			if len(able) > 0 {
				got, e := able[choose(len(able))].Step()
				if e != api.OK {
					return e
				}
				if got.Kind != lane.Arrive && (!place.Settled(g.Shape, got.Turn, got.Lane, got.Refer) || got.At == got.Refer) {
					t.Fatalf("%+v: %+v may be written by another lane", g.Shape, got)
				}
				continue
			}
			if l[0].Done() {
				return api.OK
			}
			for _, x := range l {
				if !x.Open() {
					t.Fatalf("%+v: lane %d isn't opened", g.Shape, x.Number())
				}
			}
		}
	}
}

// choices are ways to choose: the first one that is able, the last one, any, and the first one mostly.
func choices() []func(n int) int {
	r := rand.New(rand.NewSource(3404))
	return []func(n int) int{
		func(int) int { return 0 },
		func(n int) int { return n - 1 },
		r.Intn,
		func(n int) int { return r.Intn(1 + r.Intn(1+r.Intn(n))) },
	}
}

// tag is Argon2's, by a filler, of an arena of just as many blocks as are needed.
func tag(t *testing.T, p api.Params, in api.Input, f argon.Filler) string {
	t.Helper()
	s, e := shape.Of(p)
	if e != api.OK {
		t.Fatal(e)
	}
	a, _ := arena.New(s.Blocks)
	out, e := argon.By(a, p, in, f)
	if e != api.OK || len(out) != p.Size || a.Used() != 0 {
		t.Fatalf("%+v: %d bytes, %d, %d blocks in use", p, len(out), e, a.Used())
	}
	return out
}

func TestTagsOfRFC(t *testing.T) {
	in := api.Input{Word: strings.Repeat("\x01", 32), Salt: strings.Repeat("\x02", 16), Secret: strings.Repeat("\x03", 8), Data: strings.Repeat("\x04", 12)}
	for kind, want := range []string{
		"512b391b6f1162975371d30919734294f868e3be3984f3c1a13a4db9fabe4acb",
		"c814d9d1dc7f37aa13f0d77f2494bda1c8de6b016dd388d29952a4c4672b6ce8",
		"0d640df58d78766c08c037a34a8b53c9d01ef0452d75b65eb52520e96b01e659",
	} {
		p := api.Params{Alg: api.Argon2d + kind, Time: 3, Memory: 32, Lanes: 4, Size: 32}
		for n, choose := range choices() {
			if got := hex.EncodeToString([]byte(tag(t, p, in, filler(t, choose)))); got != want {
				t.Errorf("kind %d, choices %d: %s, not %s", kind, n, got, want)
			}
		}
	}
}

// TestTags: of another Argon2, by their SHA-256, whatever is chosen.
func TestTags(t *testing.T) {
	for _, c := range []struct {
		secret, data                     string
		alg, passes, memory, lanes, size int
		want                             string
	}{
		{"", "", api.Argon2d, 1, 8, 1, 4, "8c4d1041c444e494d1899ee1d6aa40d655e2e546e58dd87e6faa45879e977d02"},
		{"", "", api.Argon2i, 1, 8, 1, 5, "f5c62f6cb4b3fe9d56fa67189e67b63251c416a64cd39a3c2a2b7051edad5114"},
		{"", "", api.Argon2id, 1, 8, 1, 16, "8bdaab78eecedad220063b21bc04bfe9a20950045101236d60368eaa37150585"},
		{"", "", api.Argon2id, 2, 17, 2, 32, "c592eb4938eda789799dd01c8baa9f611e87baca0d0e95396ad527cd7587ff29"},
		{"key", "", api.Argon2d, 3, 31, 3, 63, "55fbce222aba79c28d14a5dc95309c97399ad45b44d877650e2e81189b455d5c"},
		{"", "data", api.Argon2i, 2, 47, 4, 64, "3fd3bb0c4aba6953707561efb370b59bc175747025a65892dbc07ee695be1871"},
		{"key", "data", api.Argon2id, 1, 100, 5, 65, "5e174a11338a8eb7b0436aec6ad7e1ebc79903773455e108625620185b4486a6"},
		{"", "", api.Argon2d, 2, 113, 7, 96, "a23647e78c7a797caf73b15a123471a0ea0d337ab9810c218d4bd1c5c9044f5f"},
		{"", "", api.Argon2i, 1, 300, 9, 97, "419d388f8eb2b8e72b66795c56b2d5bc865c01c8a3c1a751647733b1b2d768f4"},
		{"", "", api.Argon2id, 2, 271, 16, 128, "59afb952d62c80770577eefa2f0222effa9501a6bb966ebad3048f62df639e0e"},
		{"", "", api.Argon2id, 1, 2040, 255, 24, "b80c35afaceb33449e2be2938d22cd2a7a839204252dada8d972a24810766b7b"},
		{"", "", api.Argon2i, 1, 2056, 257, 31, "168a31ee12403d932f555d45f85adade1fc141031509af8bf3faa31f103e115f"},
		{"", "", api.Argon2i, 2, 1100, 2, 1000, "6612c7a24267f971196552e1dabb152655de0b5d8aa1ee0bf52d10a5a3f9b76e"},
		{"", "data", api.Argon2d, 2, 777, 3, 1023, "65cdc6243d19c8d573ac22beac9832387b252afc271f5817f7723b3aa1bb00fc"},
		{"key", "data", api.Argon2id, 4, 1999, 6, 1024, "860a9f32b32c30b6599bbe4782e440bc234f9b719624b33b848ff2e82a5306a4"},
		{"", "", api.Argon2i, 1, 516, 1, 32, "5240d05916b4a7b278a1c538d2ab4bc207bccd1327f7588677674984aa9c3a64"},
		{"", "", api.Argon2id, 2, 516, 1, 32, "342e2e482ba11cc2c24ffc206ded8f789786c11d6895624a450c4ff307350429"},
		{"", "", api.Argon2i, 1, 6000, 3, 32, "e73d384d74c7bd21d2856739c7d8bcf111f4260814d979ba8a8baed4e8adcdf1"},
		{"", "", api.Argon2id, 2, 6001, 3, 32, "959066344e90c1aab9b1a11485bb8dca892c7b79225569924f4757ad974cdbc2"},
		{"", "", api.Argon2d, 2, 4099, 4, 32, "536e93f6bb0486839854823f3249f4959ac21368db419fee818d4d3724748db4"},
		{"", "", api.Argon2id, 20, 24, 3, 32, "29794d580f280b2a6ee80e255edcfbb2e69af0ea48849e70fc9cade8c1dfd653"},
		{"", "", api.Argon2d, 100, 8, 1, 32, "9d0844afdafd1f71b4c164366fcf1ae3f79c7a60e90e6074853a512f892bb118"},
		{"", "", api.Argon2i, 60, 16, 2, 32, "c30948205060a3a64e37b78208f6dc8467b157371802b1e75083868296f2e6de"},
		{"", "", api.Argon2id, 300, 8, 1, 32, "291e6fcd8d21183b2dc01fdfa02e58512a540436d2b21b4db741e3a2da436b73"},
	} {
		p := api.Params{Alg: c.alg, Time: c.passes, Memory: c.memory, Lanes: c.lanes, Size: c.size}
		in := api.Input{Word: "password", Salt: "somesalt", Secret: c.secret, Data: c.data}
		for n, choose := range choices()[1:] {
			sum := sha256.Sum256([]byte(tag(t, p, in, filler(t, choose))))
			if got := hex.EncodeToString(sum[:]); got != c.want {
				t.Errorf("%+v, choices %d: %s, not %s", p, n, got, c.want)
			}
		}
	}
}

// TestAsFill: the memory is what fill.All makes of it, whatever is chosen, and whatever stood there ahead.
func TestAsFill(t *testing.T) {
	for _, s := range some(t) {
		for n, choose := range choices() {
			x, y := made(t, s, 3, int64(n)), made(t, s, 3, int64(n))
			if e := filler(t, choose)(x.g); e != api.OK {
				t.Fatalf("%+v: %d", s, e)
			}
			if e := fill.All(y.g); e != api.OK {
				t.Fatal(e)
			}
			if !slices.Equal(x.blocks(), y.blocks()) {
				t.Errorf("%+v, choices %d: other blocks", s, n)
			}
		}
	}
}

// R1

// TestMadeByNobody: of such lanes, and lanes of such grids, each call ends.
func TestMadeByNobody(t *testing.T) {
	for _, l := range []*lane.Lane{{}, new(lane.Lane)} {
		for range 3 {
			l.Step()
			l.Open()
			l.Number()
			l.Turn()
			l.Waits()
			l.Done()
		}
	}
	r := rand.New(rand.NewSource(3405))
	s := shaped(t, api.Argon2d, 2, 16, 2)
	x := made(t, s, 4, 6)
	gone, _ := grid.New(x.p, s)
	gone.Piece = nil
	l := []*grid.Grid{{}, {Piece: x.p}, {Shape: s}, {Piece: &arena.Piece{}}, {Piece: &arena.Piece{}, Shape: s}, gone}
	numbers := append(far(), 0, 1, 2, 3, 4, 7, 8, 16)
	any := func() int { return numbers[r.Intn(len(numbers))] }
	near := func() int { return r.Intn(6) - 1 }
	for n := range 3000 {
		s := shape.Shape{Alg: near(), Passes: any(), Lanes: any(), Memory: any(), Blocks: any(), Columns: any(), Segment: any(), Size: any()}
		if n%2 == 0 {
			s.Lanes, s.Columns, s.Segment = near(), near()*4, near()
		}
		l = append(l, &grid.Grid{Piece: x.p, Shape: s})
	}
	for _, g := range l {
		for _, number := range []int{0, 1, near(), any(), any()} {
			l, e := lane.New(g, number)
			if number < 0 || number >= g.Lanes {
				if l != nil || e != api.ErrNone {
					t.Fatalf("%+v, lane %d: %v, %d", g.Shape, number, l, e)
				}
			}
			for range 40 {
				l.Step()
				if r.Intn(2) == 0 {
					l.Open()
				}
			}
			l.Number()
			l.Turn()
			l.Done()
		}
	}
}
