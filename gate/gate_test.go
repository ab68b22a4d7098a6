package gate_test

import (
	"math"
	"math/rand"
	"slices"
	"testing"

	"pestle/api"
	"pestle/gate"
)

// far are numbers that nobody has, and at the edges of their kind.
func far() []int {
	return []int{math.MinInt, math.MinInt + 1, -1 << 62, -1 << 32, 1 - 1<<32, -1 << 31, -1 << 20, -1 << 8, -9, -2, -1, 1<<20 + 1, 1 << 31, 1<<32 - 1, 1 << 32, 1<<32 + 1, 1 << 61, 1 << 62, math.MaxInt - 1, math.MaxInt}
}

// upto are the numbers from 0 to n - 1.
func upto(n int) []int {
	var l []int
	for i := range n {
		l = append(l, i)
	}
	return l
}

// mate is a gate as it is to be: who came since it opened last, in order.
type mate struct {
	n, opened int
	came      []int
}

// arrive has some come.
func (m *mate) arrive(l []int) (bool, api.Errno) {
	came := slices.Clone(m.came)
	for _, i := range l {
		if i < 0 || i >= m.n {
			return false, api.ErrArg
		}
		if slices.Contains(came, i) {
			return false, api.ErrTwice
		}
		came = append(came, i)
	}
	m.came = came
	if len(came) < m.n {
		return false, api.OK
	}
	m.came = nil
	m.opened++
	return true, api.OK
}

// lacking is who isn't there, rising.
func (m *mate) lacking() []int {
	var l []int
	for i := range m.n {
		if !slices.Contains(m.came, i) {
			l = append(l, i)
		}
	}
	return l
}

// pair is a gate and its mate.
type pair struct {
	g *gate.Gate
	m *mate
}

// made is a gate of so many.
func made(t *testing.T, n int) *gate.Gate {
	t.Helper()
	g, e := gate.New(n)
	if g == nil || e != api.OK {
		t.Fatalf("New(%d): %v, %d", n, g, e)
	}
	return g
}

// paired is a gate of so many, and its mate.
func paired(t *testing.T, n int) *pair {
	t.Helper()
	q := &pair{made(t, n), &mate{n: n}}
	q.stands(t)
	return q
}

// stands tells of a gate that stands otherwise than its mate.
func (q *pair) stands(t *testing.T) {
	t.Helper()
	if got, want := q.g.Lacking(), q.m.lacking(); !slices.Equal(got, want) {
		t.Fatalf("of %d, %v came: lacking %v, not %v", q.m.n, q.m.came, got, want)
	}
	if got := q.g.Opened(); got != q.m.opened {
		t.Fatalf("of %d, %v came: opened %d times, not %d", q.m.n, q.m.came, got, q.m.opened)
	}
	for i := -2; i < q.m.n+2; i++ {
		if got, want := q.g.There(i), slices.Contains(q.m.came, i); got != want {
			t.Fatalf("of %d, %v came: is %d there: %v, not %v", q.m.n, q.m.came, i, got, want)
		}
	}
}

// arrive has some come to both, and tells whether the gate opened.
func (q *pair) arrive(t *testing.T, l ...int) (bool, api.Errno) {
	t.Helper()
	came, was := q.m.came, slices.Clone(l)
	want, f := q.m.arrive(l)
	got, e := q.g.Arrive(l...)
	if got != want || e != f {
		t.Fatalf("of %d, %v came, then %v: %v, %d, not %v, %d", q.m.n, came, was, got, e, want, f)
	}
	if !slices.Equal(l, was) {
		t.Fatalf("of %d, %v came: %v was made %v", q.m.n, came, was, l)
	}
	q.stands(t)
	return got, e
}

// orders are all orders of a list.
func orders(l []int) [][]int {
	if len(l) == 0 {
		return [][]int{nil}
	}
	var out [][]int
	for k := range l {
		rest := slices.Delete(slices.Clone(l), k, k+1)
		for _, o := range orders(rest) {
			out = append(out, append([]int{l[k]}, o...))
		}
	}
	return out
}

// cut is a list in parts: behind its k-th member, if bit k is 1.
func cut(l []int, bits int) [][]int {
	var out [][]int
	from := 0
	for k := range l {
		if bits>>k&1 == 1 || k == len(l)-1 {
			out = append(out, l[from:k+1])
			from = k + 1
		}
	}
	return out
}

// lists are all lists of just so many of some numbers.
func lists(many int, of []int) [][]int {
	if many == 0 {
		return [][]int{nil}
	}
	var out [][]int
	for _, l := range lists(many-1, of) {
		for _, i := range of {
			out = append(out, append(slices.Clone(l), i))
		}
	}
	return out
}

// P35.1

func TestNew(t *testing.T) {
	for _, n := range []int{1, 2, 3, 7, 8, 9, 63, 64, 65, 255, 256, 257, 1000, 65535, 65536, 65537, 1<<20 - 1, 1 << 20, api.MaxPicks} {
		g := made(t, n)
		if got := g.Lacking(); !slices.Equal(got, upto(n)) {
			t.Errorf("of %d: %d are lacking", n, len(got))
		}
		if g.Opened() != 0 {
			t.Errorf("of %d: opened %d times", n, g.Opened())
		}
		for i := range n {
			if g.There(i) {
				t.Fatalf("of %d: %d is there", n, i)
			}
		}
	}
}

func TestNewOfTooFewOrMany(t *testing.T) {
	for _, n := range append(far(), 0, api.MaxPicks+1, api.MaxPicks+2, 1<<21, 1<<22, 1<<24, 1<<30) {
		if g, e := gate.New(n); g != nil || e != api.ErrArg {
			t.Errorf("New(%d): %v, %d", n, g, e)
		}
	}
}

// TestApart: what one gate is told another one isn't.
func TestApart(t *testing.T) {
	x, y, z := paired(t, 3), paired(t, 3), paired(t, 2)
	x.arrive(t, 1)
	y.stands(t)
	z.stands(t)
	y.arrive(t, 0, 2)
	x.stands(t)
	z.arrive(t, 0, 1)
	x.stands(t)
	y.stands(t)
	x.arrive(t, 2, 0)
	y.stands(t)
	z.stands(t)
}

// P35.2

// TestExample of the chapter.
func TestExample(t *testing.T) {
	g := made(t, 2)
	if is, e := g.Arrive(0); is || e != api.OK || !g.There(0) || g.There(1) {
		t.Errorf("0 comes: %v, %d", is, e)
	}
	if is, e := g.Arrive(0); is || e != api.ErrTwice {
		t.Errorf("0 comes again: %v, %d", is, e)
	}
	if is, e := g.Arrive(1); !is || e != api.OK || g.There(0) || g.There(1) {
		t.Errorf("1 comes: %v, %d", is, e)
	}
	if !slices.Equal(g.Lacking(), []int{0, 1}) || g.Opened() != 1 {
		t.Errorf("lacking %v, opened %d times", g.Lacking(), g.Opened())
	}
}

// TestFaults: the first one that is wrong counts, whatever is behind it, and with it nobody comes.
func TestFaults(t *testing.T) {
	for _, c := range []struct {
		n    int
		came []int
		l    []int
		want api.Errno
	}{
		{1, nil, []int{-1}, api.ErrArg},
		{1, nil, []int{1}, api.ErrArg},
		{1, nil, []int{0, 0}, api.ErrTwice},
		{1, nil, []int{0, 1}, api.ErrArg},
		{1, nil, []int{1, 0}, api.ErrArg},
		{1, nil, []int{0, 0, 1}, api.ErrTwice},
		{1, nil, []int{0, 1, 0}, api.ErrArg},
		{2, []int{0}, []int{0}, api.ErrTwice},
		{2, []int{1}, []int{1}, api.ErrTwice},
		{2, []int{0}, []int{1, 1}, api.ErrTwice},
		{2, []int{0}, []int{1, 0}, api.ErrTwice},
		{2, []int{0}, []int{0, 1}, api.ErrTwice},
		{2, []int{0}, []int{1, 2}, api.ErrArg},
		{2, []int{0}, []int{2, 0}, api.ErrArg},
		{2, []int{0}, []int{0, 2}, api.ErrTwice},
		{2, nil, []int{0, 1, 0}, api.ErrTwice},
		{2, nil, []int{0, 1, 0, 1}, api.ErrTwice},
		{2, nil, []int{0, 1, 2}, api.ErrArg},
		{3, nil, []int{2, 2, 9}, api.ErrTwice},
		{3, nil, []int{2, 9, 2}, api.ErrArg},
		{3, nil, []int{9, 2, 2}, api.ErrArg},
		{3, nil, []int{9, 9}, api.ErrArg},
		{3, nil, []int{-1, -1}, api.ErrArg},
		{3, nil, []int{0, 1, 1}, api.ErrTwice},
		{3, nil, []int{0, 1, 3}, api.ErrArg},
		{3, nil, []int{0, 1, -1}, api.ErrArg},
		{3, []int{1}, []int{0, 2, 1}, api.ErrTwice},
		{3, []int{1}, []int{0, 2, 0}, api.ErrTwice},
		{3, []int{1}, []int{0, 2, 3}, api.ErrArg},
		{3, []int{1, 2}, []int{0, 0}, api.ErrTwice},
	} {
		q := paired(t, c.n)
		q.arrive(t, c.came...)
		for range 2 {
			if _, e := q.arrive(t, c.l...); e != c.want {
				t.Errorf("of %d, %v came, then %v: %d, not %d", c.n, c.came, c.l, e, c.want)
			}
		}
		q.arrive(t, q.m.lacking()...)
		if q.m.opened != 1 {
			t.Errorf("of %d, behind %v: opened %d times", c.n, c.l, q.m.opened)
		}
	}
}

// TestFarNumbers: there is no such number, alone or behind others.
func TestFarNumbers(t *testing.T) {
	for _, n := range []int{1, 2, 3, 256, 1 << 16, 1 << 20} {
		g := made(t, n)
		before := g.Lacking()
		if n > 1 {
			g.Arrive(0)
			before = before[1:]
		}
		for _, i := range append(far(), n, n+1, -n) {
			if g.There(i) {
				t.Errorf("of %d: %d is there", n, i)
			}
			for _, l := range [][]int{{i}, {n - 1, i}, {i, n - 1}, {i, 0}, {i, i}} {
				if is, e := g.Arrive(l...); is || e != api.ErrArg {
					t.Errorf("of %d, %v: %v, %d", n, l, is, e)
				}
			}
		}
		if got := g.Lacking(); !slices.Equal(got, before) || g.Opened() != 0 {
			t.Errorf("of %d: %d are lacking, opened %d times", n, len(got), g.Opened())
		}
	}
}

// TestAllLists: each list of up to four, to each gate of up to three, whoever came ahead.
func TestAllLists(t *testing.T) {
	for n := 1; n <= 3; n++ {
		numbers := append(upto(n), -1, n)
		for many := range 5 {
			for _, l := range lists(many, numbers) {
				for who := range 1<<n - 1 {
					q := paired(t, n)
					var came []int
					for i := range n {
						if who>>i&1 == 1 {
							came = append(came, i)
						}
					}
					q.arrive(t, came...)
					q.arrive(t, l...)
					q.arrive(t, l...)
				}
			}
		}
	}
}

// TestNobody: a list of none has nobody come, and the gate doesn't open by it.
func TestNobody(t *testing.T) {
	for n := 1; n <= 5; n++ {
		q := paired(t, n)
		for _, part := range cut(upto(n), 1<<n-1) {
			for _, l := range [][]int{nil, {}} {
				if is, e := q.arrive(t, l...); is || e != api.OK {
					t.Errorf("of %d, nobody comes: %v, %d", n, is, e)
				}
			}
			q.arrive(t)
			q.arrive(t, part...)
		}
		if is, e := q.arrive(t); is || e != api.OK || q.m.opened != 1 {
			t.Errorf("of %d, nobody comes once it opened: %v, %d", n, is, e)
		}
	}
}

// TestListIsTheirs: a list is neither kept, nor looked at behind its length.
func TestListIsTheirs(t *testing.T) {
	q := paired(t, 4)
	all := []int{2, 0, 9, 2, 3, 1}
	q.arrive(t, all[:2]...)
	if !slices.Equal(all, []int{2, 0, 9, 2, 3, 1}) {
		t.Errorf("made %v", all)
	}
	all[0], all[1] = 1, 3
	q.stands(t)
	if is, e := q.arrive(t, all[:2]...); !is || e != api.OK {
		t.Errorf("the others come: %v, %d", is, e)
	}
	if !slices.Equal(all, []int{1, 3, 9, 2, 3, 1}) {
		t.Errorf("made %v", all)
	}
}

// P35.3

// TestLackingIsNew: what is done to an answer changes neither the gate nor another answer.
func TestLackingIsNew(t *testing.T) {
	q := paired(t, 5)
	q.arrive(t, 3)
	x, y := q.g.Lacking(), q.g.Lacking()
	for i := range x {
		x[i] = -7
	}
	x = append(x, 1, 2, 3)
	x = append(x[:0], 9, 9, 9, 9, 9, 9)
	if !slices.Equal(y, []int{0, 1, 2, 4}) {
		t.Errorf("another answer is %v, with %v", y, x)
	}
	q.stands(t)
	q.arrive(t, 0, 1)
	if !slices.Equal(y, []int{0, 1, 2, 4}) {
		t.Errorf("an answer was made %v", y)
	}
}

// TestAskedOften: what is asked changes nothing.
func TestAskedOften(t *testing.T) {
	q := paired(t, 3)
	for _, i := range []int{2, 0, 1, 0} {
		for range 5 {
			q.stands(t)
		}
		q.arrive(t, i)
	}
	if q.m.opened != 1 || !slices.Equal(q.g.Lacking(), []int{1, 2}) {
		t.Errorf("opened %d times, lacking %v", q.m.opened, q.g.Lacking())
	}
}

func TestNil(t *testing.T) {
	var g *gate.Gate
	for _, l := range [][]int{nil, {}, {0}, {-1}, {0, 0}, {0, 1, 2}, far()} {
		if is, e := g.Arrive(l...); is || e != api.ErrNone {
			t.Errorf("%v: %v, %d", l, is, e)
		}
	}
	for _, i := range append(far(), 0, 1, 2, 3) {
		if g.There(i) {
			t.Errorf("%d is there", i)
		}
	}
	if l := g.Lacking(); len(l) != 0 {
		t.Errorf("lacking %v", l)
	}
	if n := g.Opened(); n != 0 {
		t.Errorf("opened %d times", n)
	}
}

// P35.4

// TestOrders: in whatever order, and in whatever parts, each comes: the gate opens once the last one is there, and not ahead; then all over again.
func TestOrders(t *testing.T) {
	for n := 1; n <= 5; n++ {
		q := paired(t, n)
		opened := 0
		for _, order := range orders(upto(n)) {
			for bits := range 1 << (n - 1) {
				parts := cut(order, bits)
				for k, part := range parts {
					is, e := q.arrive(t, part...)
					if last := k == len(parts)-1; is != last || e != api.OK {
						t.Fatalf("of %d, %v, part %d: %v, %d", n, parts, k, is, e)
					}
				}
				opened++
				if got := q.g.Opened(); got != opened {
					t.Fatalf("of %d, %v: opened %d times, not %d", n, parts, got, opened)
				}
			}
		}
	}
}

// TestWalks: any lists, one behind the other, good ones and wrong ones.
func TestWalks(t *testing.T) {
	r := rand.New(rand.NewSource(35))
	for _, n := range []int{1, 2, 3, 4, 5, 8, 13, 31, 64, 65, 100} {
		for wrong := range 4 {
			q := paired(t, n)
			for range 60 + 12*n {
				lacks := q.m.lacking()
				r.Shuffle(len(lacks), func(i, k int) { lacks[i], lacks[k] = lacks[k], lacks[i] })
				l := lacks[:r.Intn(1+min(len(lacks), 1+r.Intn(4)))]
				if r.Intn(4) < wrong {
					any := append(far(), n, r.Intn(n), r.Intn(n), r.Intn(n))
					l = slices.Insert(l, r.Intn(len(l)+1), any[r.Intn(len(any))])
				}
				q.arrive(t, l...)
			}
			if q.m.opened == 0 && wrong < 3 {
				t.Errorf("of %d: never opened", n)
			}
		}
	}
}

// TestManyOpenings of a gate of one, who never waits.
func TestManyOpenings(t *testing.T) {
	g := made(t, 1)
	for k := range 100000 {
		if is, e := g.Arrive(0); !is || e != api.OK || g.There(0) || g.Opened() != k+1 {
			t.Fatalf("opening %d: %v, %d, told as %d", k+1, is, e, g.Opened())
		}
	}
}

// TestGreatGate: of as many as there may be, all at once, one by one either way, and in two halves.
func TestGreatGate(t *testing.T) {
	n := api.MaxPicks
	g := made(t, n)
	all := upto(n)
	back := slices.Clone(all)
	slices.Reverse(back)
	opened := 0
	opens := func(parts [][]int) {
		t.Helper()
		for k, l := range parts {
			is, e := g.Arrive(l...)
			if is != (k == len(parts)-1) || e != api.OK || g.There(l[0]) == is {
				t.Fatalf("part %d of %d: %v, %d", k, len(parts), is, e)
			}
		}
		opened++
		if g.Opened() != opened || !slices.Equal(g.Lacking(), all) {
			t.Fatalf("opened %d times, not %d; %d are lacking", g.Opened(), opened, len(g.Lacking()))
		}
	}
	opens([][]int{all})
	opens(slices.Collect(slices.Chunk(all, 1)))
	opens(slices.Collect(slices.Chunk(back, 1)))
	opens([][]int{back[n/2:], all[n/2:]})
	if is, e := g.Arrive(append(back, 0)...); is || e != api.ErrTwice {
		t.Errorf("0 comes twice: %v, %d", is, e)
	}
	if is, e := g.Arrive(append(back, n)...); is || e != api.ErrArg {
		t.Errorf("one more comes: %v, %d", is, e)
	}
	if is, e := g.Arrive(all[1:]...); is || e != api.OK || !slices.Equal(g.Lacking(), []int{0}) {
		t.Errorf("all but 0 come: %v, %d", is, e)
	}
	if is, e := g.Arrive(n - 1); is || e != api.ErrTwice {
		t.Errorf("the last one comes again: %v, %d", is, e)
	}
	opens([][]int{{0}})
}

// TestLongList: of so many numbers, most of which are there ahead in the list.
func TestLongList(t *testing.T) {
	q := paired(t, 3)
	l := make([]int, 1<<22)
	for i := range l {
		l[i] = i % 3
	}
	if is, e := q.g.Arrive(l...); is || e != api.ErrTwice {
		t.Errorf("%v, %d", is, e)
	}
	q.stands(t)
}

// R1

// TestMadeByNobody: of such gates each call ends.
func TestMadeByNobody(t *testing.T) {
	for _, g := range []*gate.Gate{{}, new(gate.Gate)} {
		for _, l := range [][]int{nil, {0}, {-1}, {0, 0}, {1, 2}, far()} {
			g.Arrive(l...)
			g.Lacking()
			g.Opened()
		}
		for _, i := range append(far(), 0, 1, 2) {
			g.There(i)
		}
	}
}
