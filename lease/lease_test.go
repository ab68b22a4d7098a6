package lease_test

import (
	"math"
	"math/rand"
	"runtime"
	"testing"

	"pestle/api"
	"pestle/arena"
	"pestle/lease"
)

// made is an arena of so many blocks.
func made(t *testing.T, budget int) *arena.Arena {
	t.Helper()
	a, e := arena.New(budget)
	if a == nil || e != api.OK {
		t.Fatalf("New(%d): %v, %d", budget, a, e)
	}
	return a
}

// lent is a piece that an arena lends by itself, beside all leases.
func lent(t *testing.T, a *arena.Arena, n int) *arena.Piece {
	t.Helper()
	p, e := a.Reserve(n)
	if p == nil || e != api.OK {
		t.Fatalf("Reserve(%d): %v, %d", n, p, e)
	}
	return p
}

// opened is a lease of an arena.
func opened(t *testing.T, a *arena.Arena) *lease.Lease {
	t.Helper()
	l, e := lease.Open(a)
	if l == nil || e != api.OK {
		t.Fatalf("Open: %v, %d", l, e)
	}
	return l
}

// taken is a piece that a lease has, all words of which are others than 0.
func taken(t *testing.T, l *lease.Lease, n int) *arena.Piece {
	t.Helper()
	p, e := l.Take(n)
	if p == nil || e != api.OK {
		t.Fatalf("Take(%d): %v, %d", n, p, e)
	}
	if p.Len() != n || !p.Clean() {
		t.Fatalf("Take(%d): it has %d, clean: %t", n, p.Len(), p.Clean())
	}
	for i := range n {
		for k := range p.At(i) {
			p.At(i)[k] = math.MaxUint64
		}
	}
	return p
}

// shut has a lease closed that is open.
func shut(t *testing.T, l *lease.Lease) {
	t.Helper()
	if e := l.Close(); e != api.OK {
		t.Fatalf("Close: %d", e)
	}
}

// refused has a lease take what it is not to have.
func refused(t *testing.T, l *lease.Lease, n int, want api.Errno) {
	t.Helper()
	if p, e := l.Take(n); p != nil || e != want {
		t.Errorf("Take(%d): %v, %d, not %d", n, p, e, want)
	}
}

// has holds a lease's numbers against those that they are to be.
func has(t *testing.T, l *lease.Lease, held, peak int) {
	t.Helper()
	if l.Held() != held || l.Peak() != peak {
		t.Fatalf("held and peak are %d and %d, not %d and %d", l.Held(), l.Peak(), held, peak)
	}
}

// uses holds an arena's numbers against those that they are to be.
func uses(t *testing.T, a *arena.Arena, blocks, pieces int) {
	t.Helper()
	if a.Used() != blocks || a.Lent() != pieces {
		t.Fatalf("used are %d in %d pieces, not %d in %d", a.Used(), a.Lent(), blocks, pieces)
	}
}

// isLent tells whether a piece of some blocks is lent.
func isLent(p *arena.Piece) bool { return p.At(0) != nil }

// P21.1

func TestOpen(t *testing.T) {
	for _, n := range []int{0, 1, 3, api.MaxBudget} {
		a := made(t, n)
		l := opened(t, a)
		has(t, l, 0, 0)
		if l.Arena != a || l.Budget() != n || l.Used() != 0 || l.High() != 0 || l.Lent() != 0 {
			t.Errorf("of %d: %d, %d, %d, %d", n, l.Budget(), l.Used(), l.High(), l.Lent())
		}
		uses(t, a, 0, 0)
	}
}

// TestOpenOfAnArenaInUse: what others have is not the lease's.
func TestOpenOfAnArenaInUse(t *testing.T) {
	a := made(t, 7)
	p := lent(t, a, 4)
	l := opened(t, a)
	has(t, l, 0, 0)
	taken(t, l, 2)
	has(t, l, 2, 2)
	uses(t, a, 6, 2)
	shut(t, l)
	uses(t, a, 4, 1)
	if !isLent(p) {
		t.Error("what the lease never had was taken back")
	}
}

func TestOpenOfNoArena(t *testing.T) {
	if l, e := lease.Open(nil); l != nil || e != api.ErrNone {
		t.Error(l, e)
	}
}

// TestTakeIsReserve: of each budget, with each number lent, and each number held, just so many are had as are left.
func TestTakeIsReserve(t *testing.T) {
	for budget := range 6 {
		for others := range budget + 1 {
			for first := range budget - others + 1 {
				a := made(t, budget)
				lent(t, a, others)
				l := opened(t, a)
				taken(t, l, first)
				left := budget - others - first
				for _, n := range []int{left + 1, left + 2, math.MaxInt - others, math.MaxInt} {
					refused(t, l, n, api.ErrBudget)
					has(t, l, first, first)
					uses(t, a, others+first, 2)
				}
				taken(t, l, left)
				has(t, l, first+left, first+left)
				uses(t, a, budget, 3)
				shut(t, l)
				uses(t, a, others, 1)
			}
		}
	}
}

// TestTakeOfNumbersThatMayNotBe changes nothing, however much is held.
func TestTakeOfNumbersThatMayNotBe(t *testing.T) {
	a := made(t, 2)
	l := opened(t, a)
	for i := range 3 {
		for _, n := range []int{-1, -2, math.MinInt32, math.MinInt + 1, math.MinInt} {
			refused(t, l, n, api.ErrArg)
			has(t, l, i, i)
			uses(t, a, i, i)
		}
		l.Take(1)
	}
}

// TestTakeOfNoBlocks: a piece that has none is the lease's, too, and is given back.
func TestTakeOfNoBlocks(t *testing.T) {
	a := made(t, 0)
	l := opened(t, a)
	p, q := taken(t, l, 0), taken(t, l, 0)
	if p == q {
		t.Error("two pieces are one")
	}
	has(t, l, 0, 0)
	uses(t, a, 0, 2)
	refused(t, l, 1, api.ErrBudget)
	shut(t, l)
	uses(t, a, 0, 0)
	if e := a.Release(p); e != api.ErrState {
		t.Error(e)
	}
}

// TestTakeOfAClosedLease: that it was closed comes ahead of what Reserve says.
func TestTakeOfAClosedLease(t *testing.T) {
	a := made(t, 3)
	l := opened(t, a)
	taken(t, l, 1)
	shut(t, l)
	for _, n := range []int{0, 1, 3, 4, math.MaxInt, -1, math.MinInt} {
		refused(t, l, n, api.ErrState)
	}
	has(t, l, 0, 1)
	uses(t, a, 0, 0)
}

func TestNilLease(t *testing.T) {
	var l *lease.Lease
	for range 2 {
		has(t, l, 0, 0)
		for _, n := range []int{0, 1, math.MaxInt, -1, math.MinInt} { // ahead of what may not be
			refused(t, l, n, api.ErrNone)
		}
		if e := l.Close(); e != api.ErrNone {
			t.Error(e)
		}
	}
}

// TestLeasesThatNobodyMade: nothing panics.
func TestLeasesThatNobodyMade(t *testing.T) {
	var l lease.Lease
	for range 2 {
		for _, n := range []int{0, 1, -1, math.MaxInt, math.MinInt} {
			l.Take(n)
		}
		l.Held()
		l.Peak()
		l.Close()
	}
}

// P21.2

func TestHeldAndPeak(t *testing.T) {
	a := made(t, 40)
	l := opened(t, a)
	sum := 0
	for _, n := range []int{3, 0, 1, 8, 0, 2, 26} {
		taken(t, l, n)
		sum += n
		has(t, l, sum, sum)
		refused(t, l, 41-sum, api.ErrBudget)
		refused(t, l, -1, api.ErrArg)
		has(t, l, sum, sum) // what is refused was never held
	}
	shut(t, l)
	has(t, l, 0, 40)
}

// TestCloseGivesAllBack: each piece is back, whatever its size and its place.
func TestCloseGivesAllBack(t *testing.T) {
	for count := range 6 {
		a := made(t, 40)
		l := opened(t, a)
		var pieces []*arena.Piece
		var blocks []*api.Block
		for i := range count {
			p := taken(t, l, i+1)
			pieces = append(pieces, p)
			blocks = append(blocks, p.At(0), p.At(i))
		}
		uses(t, a, count*(count+1)/2, count)
		shut(t, l)
		uses(t, a, 0, 0)
		has(t, l, 0, count*(count+1)/2)
		for i, p := range pieces {
			if _, e := p.Get(0); e != api.ErrState || isLent(p) || !p.Clean() {
				t.Errorf("piece %d of %d: %d, clean: %t", i, count, e, p.Clean())
			}
			if e := a.Release(p); e != api.ErrState {
				t.Errorf("piece %d of %d: %d", i, count, e)
			}
		}
		for _, b := range blocks { // a look alone: the memory itself is to be 0
			if *b != (api.Block{}) {
				t.Fatal("a block is not clean")
			}
		}
		lent(t, a, 40)
	}
}

func TestCloseTwice(t *testing.T) {
	a := made(t, 5)
	l := opened(t, a)
	taken(t, l, 2)
	shut(t, l)
	p := lent(t, a, 2)
	for range 3 {
		if e := l.Close(); e != api.ErrState {
			t.Error(e)
		}
		has(t, l, 0, 2)
		uses(t, a, 2, 1)
	}
	if !isLent(p) {
		t.Error("what was lent behind Close was taken back")
	}
}

func TestCloseOfALeaseThatHasNone(t *testing.T) {
	a := made(t, 5)
	p := lent(t, a, 2)
	l := opened(t, a)
	shut(t, l)
	if e := l.Close(); e != api.ErrState {
		t.Error(e)
	}
	refused(t, l, 1, api.ErrState)
	has(t, l, 0, 0)
	uses(t, a, 2, 1)
	if !isLent(p) {
		t.Error("what the lease never had was taken back")
	}
}

// TestAPieceThatTheArenaTookBack is the lease's still, whichever of them it is; the others are given back all the same.
func TestAPieceThatTheArenaTookBack(t *testing.T) {
	for gone := range 3 {
		for _, through := range []bool{false, true} { // by the lease's own call, which is the arena's
			a := made(t, 7)
			l := opened(t, a)
			pieces := []*arena.Piece{taken(t, l, 1), taken(t, l, 2), taken(t, l, 4)}
			release := a.Release
			if through {
				release = l.Release
			}
			if e := release(pieces[gone]); e != api.OK {
				t.Fatal(e)
			}
			has(t, l, 7, 7)
			uses(t, a, 7-1<<gone, 2)
			p := lent(t, a, 1<<gone) // as many as came back
			shut(t, l)
			has(t, l, 0, 7)
			uses(t, a, 1<<gone, 1)
			if !isLent(p) {
				t.Error("another one's piece was taken back")
			}
			if e := a.Release(pieces[gone]); e != api.ErrState {
				t.Error(e)
			}
		}
	}
}

// TestHeldAboveTheBudget: pieces that the arena took back are counted with those that were taken behind that.
func TestHeldAboveTheBudget(t *testing.T) {
	a := made(t, 3)
	l := opened(t, a)
	a.Release(taken(t, l, 2))
	has(t, l, 2, 2)
	taken(t, l, 3)
	has(t, l, 5, 5)
	uses(t, a, 3, 1)
	refused(t, l, 1, api.ErrBudget)
	has(t, l, 5, 5)
	shut(t, l)
	has(t, l, 0, 5)
	uses(t, a, 0, 0)
}

// TestTheArenasOwnCalls: they are the arena's, ahead of Close and behind it; what they reserve the lease has not.
func TestTheArenasOwnCalls(t *testing.T) {
	a := made(t, 9)
	l := opened(t, a)
	taken(t, l, 3)
	p, e := l.Reserve(2)
	if p == nil || e != api.OK {
		t.Fatal(p, e)
	}
	has(t, l, 3, 3)
	if l.Budget() != 9 || l.Used() != 5 || l.High() != 5 || l.Lent() != 2 {
		t.Error(l.Budget(), l.Used(), l.High(), l.Lent())
	}
	shut(t, l)
	uses(t, a, 2, 1)
	if !isLent(p) || l.Budget() != 9 || l.Used() != 2 || l.Lent() != 1 || l.High() != 5 {
		t.Error(l.Budget(), l.Used(), l.High(), l.Lent())
	}
	if m := l.Mark(); m != 5 || a.High() != 2 {
		t.Error(m, a.High())
	}
	has(t, l, 0, 3)
	if e := l.Release(p); e != api.OK {
		t.Error(e)
	}
	if q, e := l.Reserve(9); q == nil || e != api.OK {
		t.Error(q, e)
	}
	uses(t, a, 9, 1)
}

// TestPeakIsTheLeasesOwn: it hangs neither on what others have, nor on the arena's Mark.
func TestPeakIsTheLeasesOwn(t *testing.T) {
	a := made(t, 20)
	a.Release(lent(t, a, 20))
	l := opened(t, a)
	lent(t, a, 5)
	taken(t, l, 4)
	a.Mark()
	has(t, l, 4, 4)
	taken(t, l, 1)
	has(t, l, 5, 5)
	if a.High() != 10 {
		t.Error(a.High())
	}
}

// TestLeasesOfOneArena: each has its own pieces, and closes them alone.
func TestLeasesOfOneArena(t *testing.T) {
	a := made(t, 10)
	l, m := opened(t, a), opened(t, a)
	if l == m {
		t.Fatal("they are one")
	}
	p, q := taken(t, l, 3), taken(t, m, 5)
	has(t, l, 3, 3)
	has(t, m, 5, 5)
	refused(t, l, 3, api.ErrBudget)
	shut(t, l)
	has(t, m, 5, 5)
	uses(t, a, 5, 1)
	if isLent(p) || !isLent(q) {
		t.Error("one lease closed the other one's piece")
	}
	taken(t, m, 3)
	shut(t, m)
	uses(t, a, 0, 0)
	has(t, l, 0, 3)
	has(t, m, 0, 8)
}

// TestLeasesOfTwoArenas: each has its own.
func TestLeasesOfTwoArenas(t *testing.T) {
	a, b := made(t, 3), made(t, 5)
	l, m := opened(t, a), opened(t, b)
	p, q := taken(t, l, 2), taken(t, m, 5)
	has(t, l, 2, 2)
	has(t, m, 5, 5)
	uses(t, a, 2, 1)
	uses(t, b, 5, 1)
	if e := l.Release(q); e != api.ErrNone {
		t.Error(e)
	}
	if e := m.Release(p); e != api.ErrNone {
		t.Error(e)
	}
	shut(t, m)
	uses(t, a, 2, 1)
	uses(t, b, 0, 0)
	if !isLent(p) || isLent(q) {
		t.Error("one lease closed the other one's piece")
	}
	shut(t, l)
	uses(t, a, 0, 0)
}

// P21.3

// TestWith: it is done once, with an open lease that has nothing, and whatever it answers is told beside the Peak.
func TestWith(t *testing.T) {
	for _, want := range []api.Errno{api.OK, api.ErrArg, api.ErrNone, api.ErrState, api.ErrWait, 17, -1, math.MaxInt, math.MinInt} {
		for n := range 4 {
			a := made(t, 5)
			lent(t, a, 2)
			var seen []*lease.Lease
			peak, e := lease.With(a, func(l *lease.Lease) api.Errno {
				seen = append(seen, l)
				has(t, l, 0, 0)
				if l.Arena != a {
					t.Error("it is of another arena")
				}
				taken(t, l, n)
				has(t, l, n, n)
				uses(t, a, 2+n, 2)
				return want
			})
			if peak != n || e != want || len(seen) != 1 {
				t.Fatalf("%d and %d, not %d and %d; done %d times", peak, e, n, want, len(seen))
			}
			uses(t, a, 2, 1)
			has(t, seen[0], 0, n)
			refused(t, seen[0], 1, api.ErrState)
			if e := seen[0].Close(); e != api.ErrState {
				t.Error(e)
			}
		}
	}
}

func TestWithNoArena(t *testing.T) {
	peak, e := lease.With(nil, func(*lease.Lease) api.Errno {
		t.Error("it is done")
		return api.ErrFull
	})
	if peak != 0 || e != api.ErrNone {
		t.Error(peak, e)
	}
}

// TestWithPeak: what is refused, or lent to others, or reserved by the arena's own call, is not among it; what was given back is.
func TestWithPeak(t *testing.T) {
	a := made(t, 10)
	lent(t, a, 1)
	peak, e := lease.With(a, func(l *lease.Lease) api.Errno {
		p := lent(t, a, 2)
		a.Release(taken(t, l, 6))
		refused(t, l, 8, api.ErrBudget)
		refused(t, l, -1, api.ErrArg)
		taken(t, l, 0)
		q, _ := l.Reserve(3)
		l.Release(q)
		taken(t, l, 1)
		a.Mark()
		return a.Release(p)
	})
	if peak != 7 || e != api.OK {
		t.Error(peak, e)
	}
	uses(t, a, 1, 1)
}

// TestWithALeaseThatIsClosedAlready: its Peak is told all the same, and no error but that of what is done.
func TestWithALeaseThatIsClosedAlready(t *testing.T) {
	for _, want := range []api.Errno{api.OK, api.ErrFull} {
		a := made(t, 3)
		var p *arena.Piece
		peak, e := lease.With(a, func(l *lease.Lease) api.Errno {
			taken(t, l, 3)
			shut(t, l)
			refused(t, l, 1, api.ErrState)
			p = lent(t, a, 3)
			return want
		})
		if peak != 3 || e != want || !isLent(p) {
			t.Error(peak, e)
		}
		uses(t, a, 3, 1)
	}
}

// TestWithPanics: a panic is its maker's, but the blocks are back.
func TestWithPanics(t *testing.T) {
	a := made(t, 5)
	lent(t, a, 1)
	var kept *lease.Lease
	func() {
		defer func() {
			if x := recover(); x != "no more" {
				t.Error(x)
			}
		}()
		lease.With(a, func(l *lease.Lease) api.Errno {
			kept = l
			taken(t, l, 1)
			taken(t, l, 2)
			panic("no more")
		})
	}()
	uses(t, a, 1, 1)
	has(t, kept, 0, 3)
	refused(t, kept, 1, api.ErrState)
}

// TestWithAGoroutineThatEnds: the blocks are back here, too.
func TestWithAGoroutineThatEnds(t *testing.T) {
	a := made(t, 5)
	done := make(chan bool)
	go func() {
		defer close(done)
		lease.With(a, func(l *lease.Lease) api.Errno {
			l.Take(4)
			runtime.Goexit()
			return api.OK
		})
	}()
	<-done
	uses(t, a, 0, 0)
}

// TestWithWithin: a lease within another one's is by itself.
func TestWithWithin(t *testing.T) {
	a := made(t, 6)
	outer, e := lease.With(a, func(l *lease.Lease) api.Errno {
		taken(t, l, 2)
		inner, e := lease.With(l.Arena, func(m *lease.Lease) api.Errno {
			taken(t, m, 3)
			has(t, l, 2, 2)
			taken(t, l, 1)
			_, e := m.Take(1)
			return e
		})
		if inner != 3 || e != api.ErrBudget {
			t.Error(inner, e)
		}
		has(t, l, 3, 3)
		uses(t, a, 3, 2)
		taken(t, l, 2)
		return api.ErrTwice
	})
	if outer != 5 || e != api.ErrTwice {
		t.Error(outer, e)
	}
	uses(t, a, 0, 0)
}

// P21.4

// run is any calls of a lease, held against numbers that are kept beside it.
type run struct {
	r          *rand.Rand
	a          *arena.Arena
	l          *lease.Lease
	own        []*arena.Piece // reserved by the arena's own call
	pieces     []*arena.Piece // the lease's
	back       map[*arena.Piece]bool
	held, peak int
	open       bool
}

// take has the lease take any number.
func (x *run) take(t *testing.T) {
	n, used, pieces := x.r.Intn(9)-1, x.a.Used(), x.a.Lent()
	p, e := x.l.Take(n)
	want := api.OK
	switch {
	case !x.open:
		want = api.ErrState
	case n < 0:
		want = api.ErrArg
	case n > x.a.Budget()-used:
		want = api.ErrBudget
	}
	if e != want || (p != nil) != (want == api.OK) {
		t.Fatalf("Take(%d): %v, %d, not %d", n, p, e, want)
	}
	if want != api.OK {
		uses(t, x.a, used, pieces)
		return
	}
	x.pieces = append(x.pieces, p)
	x.held += n
	x.peak = max(x.peak, x.held)
	uses(t, x.a, used+n, pieces+1)
}

// release has the arena take one of the lease's pieces back.
func (x *run) release(t *testing.T) {
	if len(x.pieces) == 0 {
		return
	}
	p := x.pieces[x.r.Intn(len(x.pieces))]
	want := api.OK
	if x.back[p] || !x.open {
		want = api.ErrState
	}
	if e := x.l.Release(p); e != want {
		t.Fatalf("Release: %d, not %d", e, want)
	}
	x.back[p] = true
}

// reserve has the arena lend a piece by itself, or take one of these back.
func (x *run) reserve() {
	if n := len(x.own); n > 0 && x.r.Intn(2) == 0 {
		x.l.Release(x.own[n-1])
		x.own = x.own[:n-1]
	} else if p, e := x.l.Reserve(x.r.Intn(4)); e == api.OK {
		x.own = append(x.own, p)
	}
}

// shut has the lease closed, or refused if it is closed.
func (x *run) shut(t *testing.T) {
	want := api.ErrState
	if x.open {
		want = api.OK
	}
	if e := x.l.Close(); e != want {
		t.Fatalf("Close: %d, not %d", e, want)
	}
	x.held, x.open = 0, false
}

// within has a lease of the same arena, and more within it.
func (x *run) within(t *testing.T, depth int) {
	if depth > 0 {
		held(t, x.r, x.a, depth-1)
	}
}

// do is any calls; behind them all that the arena lent by itself is back.
func (x *run) do(t *testing.T, depth int) {
	for range x.r.Intn(25) {
		switch k := x.r.Intn(20); {
		case k < 10:
			x.take(t)
		case k < 13:
			x.release(t)
		case k < 17:
			x.reserve()
		case k < 18:
			x.shut(t)
		default:
			x.within(t, depth)
		}
		has(t, x.l, x.held, x.peak)
		if x.a.Used() > x.a.Budget() {
			t.Fatal(x.a.Used(), x.a.Budget())
		}
	}
	for _, p := range x.own {
		x.a.Release(p)
	}
}

// held has any calls done with a lease, and holds the arena against what it was ahead.
func held(t *testing.T, r *rand.Rand, a *arena.Arena, depth int) {
	used, pieces := a.Used(), a.Lent()
	want := api.Errno(r.Intn(18))
	x := &run{r: r, a: a, back: map[*arena.Piece]bool{}, open: true}
	peak, e := lease.With(a, func(l *lease.Lease) api.Errno {
		x.l = l
		x.do(t, depth)
		return want
	})
	if peak != x.peak || e != want {
		t.Fatalf("%d and %d, not %d and %d", peak, e, x.peak, want)
	}
	has(t, x.l, 0, x.peak)
	uses(t, a, used, pieces)
	for _, p := range x.pieces {
		if p.Len() > 0 && isLent(p) || !p.Clean() || a.Release(p) != api.ErrState {
			t.Fatal("a piece is lent behind With, or is not clean")
		}
	}
}

// TestAnyCalls: behind With as many blocks are used as ahead of it.
func TestAnyCalls(t *testing.T) {
	for seed := range 400 {
		r := rand.New(rand.NewSource(int64(2100 + seed)))
		a := made(t, r.Intn(30))
		lent(t, a, r.Intn(a.Budget()+1))
		for range 4 {
			held(t, r, a, 3)
		}
	}
}

func TestExample(t *testing.T) {
	a := made(t, 3)
	peak, e := lease.With(a, func(l *lease.Lease) api.Errno {
		taken(t, l, 2)
		taken(t, l, 1)
		_, e := l.Take(1)
		return e
	})
	if peak != 3 || e != api.ErrBudget || a.Used() != 0 {
		t.Error(peak, e, a.Used())
	}
}
