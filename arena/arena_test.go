package arena_test

import (
	"math"
	"math/rand"
	"testing"

	"pestle/api"
	"pestle/arena"
)

// made is an arena of so many blocks.
func made(t *testing.T, budget int) *arena.Arena {
	t.Helper()
	a, e := arena.New(budget)
	if a == nil || e != api.OK {
		t.Fatalf("New(%d): %v, %d", budget, a, e)
	}
	return a
}

// lent is a piece of so many blocks, of which the arena has enough.
func lent(t *testing.T, a *arena.Arena, n int) *arena.Piece {
	t.Helper()
	p, e := a.Reserve(n)
	if p == nil || e != api.OK {
		t.Fatalf("Reserve(%d): %v, %d", n, p, e)
	}
	return p
}

// back has a piece taken back.
func back(t *testing.T, a *arena.Arena, p *arena.Piece) {
	t.Helper()
	if e := a.Release(p); e != api.OK {
		t.Fatalf("Release: %d", e)
	}
}

// counts are an arena's numbers.
type counts struct{ budget, used, high, lent int }

// hold holds an arena's numbers against those that they are to be.
func hold(t *testing.T, a *arena.Arena, want counts) {
	t.Helper()
	if got := (counts{a.Budget(), a.Used(), a.High(), a.Lent()}); got != want {
		t.Fatalf("budget, used, high, lent are %v, not %v", got, want)
	}
}

// chance is a block of any words, none of which is 0.
func chance(r *rand.Rand) api.Block {
	var b api.Block
	for i := range b {
		b[i] = r.Uint64() | 1
	}
	return b
}

// soil has all words of a lent piece be others than 0.
func soil(t *testing.T, r *rand.Rand, p *arena.Piece) {
	t.Helper()
	for i := range p.Len() {
		if e := p.Set(i, chance(r)); e != api.OK {
			t.Fatalf("Set(%d): %d", i, e)
		}
	}
}

// beyond are numbers that no block of n has.
func beyond(n int) []int {
	l := []int{math.MinInt, math.MinInt + 1, -1 << 32, math.MinInt32, -n - 1, -n, -2, -1}
	if n == 0 {
		l = []int{math.MinInt, -1 << 32, -1}
	}
	return append(l, n, n+1, 2*n+1, n+128, n+1024, math.MaxInt32, 1<<32, 1<<32+n, math.MaxInt-1, math.MaxInt)
}

// P20.1

func TestNew(t *testing.T) {
	for _, n := range []int{0, 1, 2, 3, 31, 1 << 16, 1<<22 - 1, 1 << 22, api.MaxBudget} {
		hold(t, made(t, n), counts{budget: n})
	}
}

func TestNewOfBudgetsThatMayNotBe(t *testing.T) {
	for _, n := range []int{-1, -2, -1 << 22, -1<<22 - 1, math.MinInt32, -1 << 32, math.MinInt, 1<<22 + 1, 1<<22 + 2, 1 << 23, math.MaxInt32, 1 << 32, 1<<32 + 1, 1 << 62, math.MaxInt} {
		if a, e := arena.New(n); a != nil || e != api.ErrArg {
			t.Errorf("New(%d): %v, %d", n, a, e)
		}
	}
}

// TestReserveOfAll: of a budget just so many blocks are lent as there are, whatever is lent already.
func TestReserveOfAll(t *testing.T) {
	for budget := range 12 {
		for first := range 14 {
			a := made(t, budget)
			p, e := a.Reserve(first)
			if first > budget {
				if p != nil || e != api.ErrBudget {
					t.Fatalf("%d of %d: %v, %d", first, budget, p, e)
				}
				hold(t, a, counts{budget: budget})
				continue
			}
			if p == nil || e != api.OK || p.Len() != first {
				t.Fatalf("%d of %d: %v, %d", first, budget, p, e)
			}
			hold(t, a, counts{budget, first, first, 1})
			left := budget - first
			for _, n := range []int{left + 1, left + 2, budget + 1, math.MaxInt - first, math.MaxInt - budget, math.MaxInt - 1, math.MaxInt} {
				if p, e := a.Reserve(n); p != nil || e != api.ErrBudget {
					t.Fatalf("%d, of %d %d are lent: %v, %d", n, budget, first, p, e)
				}
				hold(t, a, counts{budget, first, first, 1})
			}
			if p := lent(t, a, left); p.Len() != left {
				t.Fatalf("%d, of %d %d are lent: it has %d", left, budget, first, p.Len())
			}
			hold(t, a, counts{budget, budget, budget, 2})
		}
	}
}

func TestReserveOfNumbersThatMayNotBe(t *testing.T) {
	a := made(t, 3)
	for range 3 { // with none lent, with some, with all
		kept := counts{3, a.Used(), a.High(), a.Lent()}
		for _, n := range []int{-1, -2, -3, -4, math.MinInt32, -1 << 32, math.MinInt + 1, math.MinInt} {
			if p, e := a.Reserve(n); p != nil || e != api.ErrArg {
				t.Errorf("Reserve(%d): %v, %d", n, p, e)
			}
			hold(t, a, kept)
		}
		a.Reserve(1 + a.Used())
	}
	hold(t, a, counts{3, 3, 3, 2})
}

// TestReserveOfNone: a piece of no blocks is one, too, even where there are none.
func TestReserveOfNone(t *testing.T) {
	a := made(t, 0)
	p, q := lent(t, a, 0), lent(t, a, 0)
	if p == q || p.Len() != 0 || q.Len() != 0 || !p.Clean() {
		t.Error(p, q)
	}
	hold(t, a, counts{lent: 2})
	back(t, a, p)
	hold(t, a, counts{lent: 1})
	if e := a.Release(p); e != api.ErrState {
		t.Error(e)
	}
	hold(t, a, counts{lent: 1})
	back(t, a, q)
	hold(t, a, counts{})
	if _, e := a.Reserve(1); e != api.ErrBudget {
		t.Error(e)
	}
}

// TestReserveIsClean: blocks are 0, though others of the arena were written and taken back, or are lent.
func TestReserveIsClean(t *testing.T) {
	r := rand.New(rand.NewSource(2001))
	a := made(t, 30)
	soil(t, r, lent(t, a, 5))
	for n := range 20 {
		p, q := lent(t, a, n), lent(t, a, 5)
		for _, x := range []*arena.Piece{p, q} {
			if !x.Clean() {
				t.Fatal("it is not clean")
			}
			for i := range x.Len() {
				if b, e := x.Get(i); b != (api.Block{}) || e != api.OK || *x.At(i) != (api.Block{}) {
					t.Fatalf("block %d is %x, %d", i, b, e)
				}
			}
			soil(t, r, x)
		}
		back(t, a, p)
		back(t, a, q)
	}
}

func TestReserveOfANilArena(t *testing.T) {
	var a *arena.Arena
	for _, n := range []int{0, 1, 1 << 22, 1<<22 + 1, math.MaxInt, -1, math.MinInt} { // ahead of what may not be
		if p, e := a.Reserve(n); p != nil || e != api.ErrNone {
			t.Errorf("Reserve(%d): %v, %d", n, p, e)
		}
	}
}

func TestALargePiece(t *testing.T) {
	a := made(t, api.MaxBudget)
	if _, e := a.Reserve(api.MaxBudget + 1); e != api.ErrBudget {
		t.Error(e)
	}
	const n = 1 << 14
	p := lent(t, a, n)
	hold(t, a, counts{api.MaxBudget, n, n, 1})
	if _, e := a.Reserve(api.MaxBudget - n + 1); e != api.ErrBudget {
		t.Error(e)
	}
	p.At(n - 1)[127] = 1
	if p.Clean() || p.At(n) != nil {
		t.Error("the last block")
	}
	back(t, a, p)
	hold(t, a, counts{api.MaxBudget, 0, n, 0})
}

// P20.2

func TestReleaseClears(t *testing.T) {
	r := rand.New(rand.NewSource(2002))
	for n := range 9 {
		a := made(t, 9)
		beside := lent(t, a, 1)
		p := lent(t, a, n)
		soil(t, r, beside)
		soil(t, r, p)
		kept, _ := beside.Get(0)
		var old []*api.Block
		for i := range n {
			old = append(old, p.At(i))
		}
		back(t, a, p)
		if !p.Clean() || p.Len() != n {
			t.Errorf("of %d blocks: clean %t, %d", n, p.Clean(), p.Len())
		}
		for i, b := range old { // a look alone: the memory itself is to be 0
			if *b != (api.Block{}) {
				t.Fatalf("block %d of %d is %x", i, n, *b)
			}
		}
		if b, e := beside.Get(0); b != kept || e != api.OK {
			t.Errorf("the piece beside it is %x, %d", b, e)
		}
		hold(t, a, counts{9, 1, n + 1, 1})
	}
}

func TestReleaseTwice(t *testing.T) {
	a := made(t, 7)
	p, q := lent(t, a, 3), lent(t, a, 2)
	back(t, a, p)
	for range 3 {
		if e := a.Release(p); e != api.ErrState {
			t.Error(e)
		}
		hold(t, a, counts{7, 2, 5, 1})
	}
	s := lent(t, a, 3) // as many as p had
	if e := a.Release(p); e != api.ErrState {
		t.Error(e)
	}
	hold(t, a, counts{7, 5, 5, 2})
	if p.At(0) != nil || s.At(0) == nil || q.At(0) == nil {
		t.Error("p is lent, or another one is not")
	}
}

func TestReleaseOfNone(t *testing.T) {
	var none *arena.Arena
	a := made(t, 3)
	p := lent(t, a, 1)
	p.Set(0, api.Block{5})
	for i, e := range []api.Errno{none.Release(nil), none.Release(p), none.Release(new(arena.Piece)), a.Release(nil), a.Release(new(arena.Piece))} {
		if e != api.ErrNone {
			t.Errorf("case %d: %d", i, e)
		}
	}
	hold(t, a, counts{3, 1, 1, 1})
	if b, e := p.Get(0); b != (api.Block{5}) || e != api.OK {
		t.Errorf("%x, %d", b, e)
	}
	back(t, a, p)
	if e := none.Release(p); e != api.ErrNone {
		t.Error(e)
	}
}

// TestReleaseByAnotherArena: whose it is comes ahead of whether it is lent.
func TestReleaseByAnotherArena(t *testing.T) {
	a, b := made(t, 3), made(t, 3)
	p, q := lent(t, a, 2), lent(t, b, 2)
	p.Set(1, api.Block{127: 9})
	if e := b.Release(p); e != api.ErrNone {
		t.Error(e)
	}
	if e := a.Release(q); e != api.ErrNone {
		t.Error(e)
	}
	hold(t, a, counts{3, 2, 2, 1})
	hold(t, b, counts{3, 2, 2, 1})
	if x, e := p.Get(1); x != (api.Block{127: 9}) || e != api.OK {
		t.Errorf("%x, %d", x, e)
	}
	back(t, a, p)
	hold(t, a, counts{3, 0, 2, 0})
	hold(t, b, counts{3, 2, 2, 1})
	for range 2 {
		if e := b.Release(p); e != api.ErrNone {
			t.Error(e)
		}
		if e := a.Release(p); e != api.ErrState {
			t.Error(e)
		}
	}
	back(t, b, q)
	hold(t, b, counts{3, 0, 2, 0})
}

// TestReleaseInAnyOrder: a piece's blocks come back, whichever was lent last.
func TestReleaseInAnyOrder(t *testing.T) {
	for _, order := range [][]int{{0, 1, 2}, {0, 2, 1}, {1, 0, 2}, {1, 2, 0}, {2, 0, 1}, {2, 1, 0}} {
		a := made(t, 7)
		l := []*arena.Piece{lent(t, a, 1), lent(t, a, 2), lent(t, a, 4)}
		used := 7
		for k, i := range order {
			back(t, a, l[i])
			used -= 1 << i
			hold(t, a, counts{7, used, 7, 2 - k})
			if _, e := a.Reserve(8 - used); e != api.ErrBudget {
				t.Fatal(e)
			}
		}
		hold(t, a, counts{7, 0, 7, 0})
		lent(t, a, 7)
	}
}

// P20.3

func TestHighAndMark(t *testing.T) {
	a := made(t, 10)
	if m := a.Mark(); m != 0 {
		t.Error(m)
	}
	p := lent(t, a, 4)
	q := lent(t, a, 3)
	hold(t, a, counts{10, 7, 7, 2})
	back(t, a, q)
	hold(t, a, counts{10, 4, 7, 1})
	lent(t, a, 1)
	hold(t, a, counts{10, 5, 7, 2}) // fewer than there were
	if m := a.Mark(); m != 7 {
		t.Error(m)
	}
	hold(t, a, counts{10, 5, 5, 2})
	if m := a.Mark(); m != 5 {
		t.Error(m)
	}
	back(t, a, p)
	hold(t, a, counts{10, 1, 5, 1})
	if m := a.Mark(); m != 5 {
		t.Error(m)
	}
	hold(t, a, counts{10, 1, 1, 1})
	a.Reserve(10)
	a.Reserve(-1)
	hold(t, a, counts{10, 1, 1, 1}) // what is refused was never in use
	lent(t, a, 9)
	hold(t, a, counts{10, 10, 10, 2})
	if m := a.Mark(); m != 10 {
		t.Error(m)
	}
}

// TestArenasAreTheirOwn: what one lends is of no other one.
func TestArenasAreTheirOwn(t *testing.T) {
	a, b := made(t, 5), made(t, 5)
	if a == b {
		t.Fatal("they are one")
	}
	lent(t, a, 5)
	hold(t, b, counts{budget: 5})
	lent(t, b, 2)
	if a.Mark() != 5 || b.High() != 2 {
		t.Error(a.High(), b.High())
	}
	hold(t, a, counts{5, 5, 5, 1})
	hold(t, b, counts{5, 2, 2, 1})
}

func TestNumbersOfANilArena(t *testing.T) {
	var a *arena.Arena
	for range 2 {
		hold(t, a, counts{})
		if m := a.Mark(); m != 0 {
			t.Error(m)
		}
		a.Reserve(1)
	}
}

// P20.4

// TestAtIsTheBlockItself: what is changed through it is what Get tells, and the other way round.
func TestAtIsTheBlockItself(t *testing.T) {
	r := rand.New(rand.NewSource(2003))
	for n := 1; n < 8; n++ {
		a := made(t, 2*n)
		p, q := lent(t, a, n), lent(t, a, n)
		soil(t, r, q)
		want, others := make([]api.Block, n), make([]api.Block, n)
		for i := range n {
			others[i], _ = q.Get(i)
		}
		for range 50 {
			i := r.Intn(n)
			if r.Intn(2) == 0 {
				want[i] = chance(r)
				*p.At(i) = want[i]
			} else {
				want[i][r.Intn(128)] = r.Uint64()
				if e := p.Set(i, want[i]); e != api.OK {
					t.Fatal(e)
				}
			}
			for k := range n {
				b, e := p.Get(k)
				if b != want[k] || e != api.OK || *p.At(k) != want[k] || p.At(k) != p.At(k) {
					t.Fatalf("block %d of %d is %x, %d", k, n, b, e)
				}
				if b, e := q.Get(k); b != others[k] || e != api.OK {
					t.Fatalf("block %d of the other piece is %x, %d", k, b, e)
				}
			}
		}
	}
}

// TestSetIsSeenThroughAt: a block that was told ahead is still the piece's own.
func TestSetIsSeenThroughAt(t *testing.T) {
	p := lent(t, made(t, 2), 2)
	first, second := p.At(0), p.At(1)
	p.Set(0, api.Block{1, 2})
	p.Set(1, api.Block{127: 3})
	if *first != (api.Block{1, 2}) || *second != (api.Block{127: 3}) || first == second || first != p.At(0) || second != p.At(1) {
		t.Errorf("%x, %x", *first, *second)
	}
	second[0] = 7
	if b, _ := p.Get(1); b != (api.Block{0: 7, 127: 3}) {
		t.Errorf("%x", b)
	}
	if b, _ := p.Get(0); b != (api.Block{1, 2}) {
		t.Errorf("%x", b)
	}
}

// TestGetIsACopy: what was told by Get, or handed to Set, changes no block, and a piece is not changed by a look.
func TestGetIsACopy(t *testing.T) {
	p := lent(t, made(t, 1), 1)
	b := api.Block{5}
	p.Set(0, b)
	b[0] = 6
	c, _ := p.Get(0)
	c[0], c[1] = 7, 8
	if d, _ := p.Get(0); d != (api.Block{5}) {
		t.Errorf("%x", d)
	}
	p.At(0)[0] = 9
	if b[0] != 6 || c[0] != 7 {
		t.Error("a block that was told is another one now")
	}
}

func TestBlocksThatAreNone(t *testing.T) {
	r := rand.New(rand.NewSource(2004))
	for _, n := range []int{0, 1, 2, 3, 8} {
		a := made(t, 20)
		before, p, behind := lent(t, a, 5), lent(t, a, n), lent(t, a, 5)
		soil(t, r, p)
		want := make([]api.Block, n)
		for i := range n {
			want[i], _ = p.Get(i)
		}
		for _, i := range beyond(n) {
			if x := p.At(i); x != nil {
				t.Errorf("At(%d) of %d: %x", i, n, *x)
			}
			if b, e := p.Get(i); b != (api.Block{}) || e != api.ErrNone {
				t.Errorf("Get(%d) of %d: %x, %d", i, n, b, e)
			}
			if e := p.Set(i, api.Block{3}); e != api.ErrNone {
				t.Errorf("Set(%d) of %d: %d", i, n, e)
			}
		}
		for i := range n {
			if b, e := p.Get(i); b != want[i] || e != api.OK {
				t.Errorf("block %d of %d is %x, %d", i, n, b, e)
			}
		}
		if !before.Clean() || !behind.Clean() {
			t.Error("another piece is changed")
		}
	}
}

// TestAPieceThatWasTakenBack: a number that is none's comes ahead of a piece that isn't lent.
func TestAPieceThatWasTakenBack(t *testing.T) {
	r := rand.New(rand.NewSource(2005))
	for _, n := range []int{0, 1, 2, 5} {
		a := made(t, 5)
		p := lent(t, a, n)
		soil(t, r, p)
		back(t, a, p)
		for range 2 { // ahead of, and behind, the blocks being lent anew
			for i := range n {
				if x := p.At(i); x != nil {
					t.Errorf("At(%d) of %d: %x", i, n, *x)
				}
				if b, e := p.Get(i); b != (api.Block{}) || e != api.ErrState {
					t.Errorf("Get(%d) of %d: %x, %d", i, n, b, e)
				}
				if e := p.Set(i, api.Block{3}); e != api.ErrState {
					t.Errorf("Set(%d) of %d: %d", i, n, e)
				}
			}
			for _, i := range beyond(n) {
				if x := p.At(i); x != nil {
					t.Errorf("At(%d) of %d: %x", i, n, *x)
				}
				if b, e := p.Get(i); b != (api.Block{}) || e != api.ErrNone {
					t.Errorf("Get(%d) of %d: %x, %d", i, n, b, e)
				}
				if e := p.Set(i, api.Block{3}); e != api.ErrNone {
					t.Errorf("Set(%d) of %d: %d", i, n, e)
				}
			}
			if p.Len() != n || !p.Clean() {
				t.Errorf("of %d: %d, %t", n, p.Len(), p.Clean())
			}
			if q, e := a.Reserve(5); e == api.OK {
				soil(t, r, q)
			}
		}
	}
}

func TestANilPiece(t *testing.T) {
	var p *arena.Piece
	if p.Len() != 0 || !p.Clean() {
		t.Error(p.Len(), p.Clean())
	}
	for _, i := range append(beyond(0), 1, 2) {
		if x := p.At(i); x != nil {
			t.Errorf("At(%d): %x", i, *x)
		}
		if b, e := p.Get(i); b != (api.Block{}) || e != api.ErrNone {
			t.Errorf("Get(%d): %x, %d", i, b, e)
		}
		if e := p.Set(i, api.Block{3}); e != api.ErrNone {
			t.Errorf("Set(%d): %d", i, e)
		}
	}
}

// TestCleanSeesEachBit: one bit of one word of one block is enough, and none is too many.
func TestCleanSeesEachBit(t *testing.T) {
	p := lent(t, made(t, 3), 3)
	for i := range 3 {
		for k := range 128 {
			for bit := range 64 {
				p.At(i)[k] = 1 << bit
				if p.Clean() {
					t.Fatalf("bit %d of word %d of block %d is not seen", bit, k, i)
				}
			}
			p.At(i)[k] = 0
			if !p.Clean() {
				t.Fatalf("word %d of block %d is 0 again, and is not clean", k, i)
			}
		}
	}
}

// TestCleanOfPiecesBeside: a piece is as clean as its own blocks, whatever others are.
func TestCleanOfPiecesBeside(t *testing.T) {
	a := made(t, 6)
	l := []*arena.Piece{lent(t, a, 2), lent(t, a, 2), lent(t, a, 2)}
	l[1].Set(0, api.Block{127: 1 << 63})
	l[1].Set(1, api.Block{127: 1 << 63}) // together they would be gone
	if !l[0].Clean() || l[1].Clean() || !l[2].Clean() {
		t.Error(l[0].Clean(), l[1].Clean(), l[2].Clean())
	}
	l[1].Set(0, api.Block{})
	if l[1].Clean() {
		t.Error("block 1 is not seen")
	}
	l[1].Set(1, api.Block{})
	if !l[1].Clean() {
		t.Error("blocks that are 0 again are not clean")
	}
}

// TestObjectsThatNobodyMade: nothing panics.
func TestObjectsThatNobodyMade(t *testing.T) {
	var a arena.Arena
	var p arena.Piece
	for _, n := range []int{0, 1, -1, math.MaxInt, math.MinInt} {
		q, _ := a.Reserve(n)
		a.Release(q)
		p.At(n)
		p.Get(n)
		p.Set(n, api.Block{1})
	}
	a.Release(&p)
	a.Mark()
	_ = []int{a.Budget(), a.Used(), a.High(), a.Lent(), p.Len()}
	p.Clean()
}

// P20.5

// piece is a piece as it is to be.
type piece struct {
	of     int // its arena
	p      *arena.Piece
	blocks []api.Block
	lent   bool
}

// world is arenas and pieces as they are to be.
type world struct {
	r      *rand.Rand
	arenas []*arena.Arena
	counts []counts
	pieces []*piece
}

// reserve has an arena lend a piece, if there are blocks enough.
func (w *world) reserve(t *testing.T) {
	k := w.r.Intn(len(w.arenas))
	c := &w.counts[k]
	n := w.r.Intn(c.budget-c.used+4) - 2
	if w.r.Intn(3) == 0 {
		n = w.r.Intn(3)
	}
	p, e := w.arenas[k].Reserve(n)
	switch {
	case n < 0:
		if p != nil || e != api.ErrArg {
			t.Fatalf("Reserve(%d): %v, %d", n, p, e)
		}
	case c.used+n > c.budget:
		if p != nil || e != api.ErrBudget {
			t.Fatalf("Reserve(%d) of %v: %v, %d", n, *c, p, e)
		}
	default:
		if p == nil || e != api.OK || p.Len() != n || !p.Clean() {
			t.Fatalf("Reserve(%d) of %v: %v, %d", n, *c, p, e)
		}
		c.used += n
		c.lent++
		c.high = max(c.high, c.used)
		w.pieces = append(w.pieces, &piece{k, p, make([]api.Block, n), true})
	}
}

// release has any arena take any piece back, or be refused.
func (w *world) release(t *testing.T, x *piece) {
	k := w.r.Intn(len(w.arenas))
	want := api.OK
	switch {
	case k != x.of:
		want = api.ErrNone
	case !x.lent:
		want = api.ErrState
	default:
		x.lent = false
		w.counts[k].used -= len(x.blocks)
		w.counts[k].lent--
		clear(x.blocks)
	}
	if e := w.arenas[k].Release(x.p); e != want {
		t.Fatalf("Release: %d, not %d", e, want)
	}
}

// write has a block of a piece be another one, if there is one.
func (w *world) write(t *testing.T, x *piece) {
	n := len(x.blocks)
	i := w.r.Intn(n+2) - 1
	want, b := api.OK, chance(w.r)
	switch {
	case i < 0 || i >= n:
		want = api.ErrNone
	case !x.lent:
		want = api.ErrState
	default:
		if w.r.Intn(4) == 0 {
			b = api.Block{}
		}
		x.blocks[i] = b
	}
	if at := x.p.At(i); at == nil != (want != api.OK) {
		t.Fatalf("At(%d) of %d is there: %t", i, n, at != nil)
	} else if at != nil && w.r.Intn(2) == 0 {
		*at = b
	} else if e := x.p.Set(i, b); e != want {
		t.Fatalf("Set(%d) of %d: %d, not %d", i, n, e, want)
	}
}

// look holds all arenas and pieces against what they are to be.
func (w *world) look(t *testing.T) {
	for k, a := range w.arenas {
		hold(t, a, w.counts[k])
		if a.Used() > a.Budget() || a.High() > a.Budget() || a.Used() > a.High() {
			t.Fatal(w.counts[k])
		}
	}
	for _, x := range w.pieces {
		clean := true
		for i, want := range x.blocks {
			b, e := x.p.Get(i)
			if x.lent && (b != want || e != api.OK) || !x.lent && (b != (api.Block{}) || e != api.ErrState) {
				t.Fatalf("block %d of %d, lent %t: %x, %d", i, len(x.blocks), x.lent, b, e)
			}
			clean = clean && want == (api.Block{})
		}
		if x.p.Clean() != clean || x.p.Len() != len(x.blocks) {
			t.Fatalf("of %d blocks, lent %t: clean %t, %d", len(x.blocks), x.lent, x.p.Clean(), x.p.Len())
		}
	}
}

// TestAnyCalls holds arenas against numbers that are kept beside them, call by call.
func TestAnyCalls(t *testing.T) {
	for seed := range 60 {
		w := &world{r: rand.New(rand.NewSource(int64(2050 + seed)))}
		for _, n := range []int{0, 3, 12} {
			w.arenas = append(w.arenas, made(t, n))
			w.counts = append(w.counts, counts{budget: n})
		}
		for range 150 {
			k := w.r.Intn(len(w.arenas))
			switch do := w.r.Intn(8); {
			case do < 2 || len(w.pieces) == 0:
				w.reserve(t)
			case do < 4:
				w.release(t, w.pieces[w.r.Intn(len(w.pieces))])
			case do < 7:
				w.write(t, w.pieces[w.r.Intn(len(w.pieces))])
			default:
				if m := w.arenas[k].Mark(); m != w.counts[k].high {
					t.Fatalf("Mark is %d, not %d", m, w.counts[k].high)
				}
				w.counts[k].high = w.counts[k].used
			}
			w.look(t)
		}
	}
}

// TestWhatIsRefusedChangesNothing of all refusals, one behind the other.
func TestWhatIsRefusedChangesNothing(t *testing.T) {
	r := rand.New(rand.NewSource(2006))
	a, b := made(t, 6), made(t, 6)
	p, gone, other := lent(t, a, 2), lent(t, a, 3), lent(t, b, 4)
	soil(t, r, p)
	soil(t, r, other)
	back(t, a, gone)
	first, _ := p.Get(0)
	second, _ := p.Get(1)
	for i, e := range []api.Errno{
		refused(a.Reserve(-1)), refused(a.Reserve(5)), refused(a.Reserve(math.MaxInt)),
		a.Release(nil), a.Release(gone), a.Release(other), b.Release(p), b.Release(gone),
		p.Set(-1, api.Block{1}), p.Set(2, api.Block{1}), gone.Set(0, api.Block{1}), gone.Set(3, api.Block{1}),
	} {
		if e == api.OK {
			t.Errorf("case %d is not refused", i)
		}
	}
	hold(t, a, counts{6, 2, 5, 1})
	hold(t, b, counts{6, 4, 4, 1})
	if x, _ := p.Get(0); x != first {
		t.Errorf("%x", x)
	}
	if x, _ := p.Get(1); x != second {
		t.Errorf("%x", x)
	}
	if !gone.Clean() || gone.Len() != 3 || other.Clean() || other.Len() != 4 {
		t.Error("another piece is changed")
	}
}

// refused is the error of a Reserve that lends nothing.
func refused(p *arena.Piece, e api.Errno) api.Errno {
	if p != nil {
		return api.OK
	}
	return e
}

func TestExample(t *testing.T) {
	a := made(t, 3)
	p := lent(t, a, 2)
	if q, e := a.Reserve(2); q != nil || e != api.ErrBudget {
		t.Error(q, e)
	}
	back(t, a, p)
	hold(t, a, counts{3, 0, 2, 0})
}
