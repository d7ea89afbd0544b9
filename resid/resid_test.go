package resid

import (
	"math"
	"slices"
	"testing"

	"strait/api"
	"strait/csr"
	"strait/graphs"
	"strait/lists"
	"strait/net"
	"strait/scatter"
)

// Numbers that are no vertices, no edges and no arcs of any graph, though some are of a greater one, and twice some of them comes round to one.
var beyond = []int{math.MinInt, math.MinInt + 1, math.MinInt + 2, math.MinInt32, -1 << 62, -1<<62 + 1, -1 << 32, -1<<32 + 1, -2 * api.MaxM, -api.MaxN, -3, -2, -1, 2 * api.MaxM, 2*api.MaxM + 1, 1 << 31, 1 << 32, 1<<32 + 1, 1 << 62, 1<<62 + 1, math.MaxInt - 1, math.MaxInt}

// gone says how much went along edges: a rest that is told by flows, and not by what is left.
type gone struct {
	n     int
	edges []api.Edge // merged
	flow  []int64    // of each edge from U to V
}

// goneOf is what went along the edges of g when nothing did.
func goneOf(g *net.Net) *gone {
	return &gone{g.N(), g.Edges(), make([]int64, g.M())}
}

// twin is one that goes on by itself.
func (w *gone) twin() *gone {
	return &gone{w.n, w.edges, slices.Clone(w.flow)}
}

// arcs tells how many there are.
func (w *gone) arcs() int {
	return 2 * len(w.edges)
}

// left is how much more may go along an arc, one of each edge being turned round.
func (w *gone) left(i int) int64 {
	e := w.edges[i/2]
	if i%2 == 1 {
		return e.W + w.flow[i/2]
	}
	return e.W - w.flow[i/2]
}

// push lets so much go along an arc, if that may be.
func (w *gone) push(i int, x int64) bool {
	if i < 0 || i >= w.arcs() || x < 0 || w.left(i) < x {
		return false
	}
	if i%2 == 1 {
		x = -x
	}
	w.flow[i/2] += x
	return true
}

// excess is of each vertex what came to it less what went from it, edge by edge.
func (w *gone) excess() []int64 {
	all := make([]int64, w.n)
	for i, e := range w.edges {
		all[e.U] -= w.flow[i]
		all[e.V] += w.flow[i]
	}
	return all
}

// reach goes over all edges until nothing more is reached from v.
func (w *gone) reach(v int) []int {
	in := make([]bool, w.n)
	in[v] = true
	for again := true; again; {
		again = false
		for i, e := range w.edges {
			if in[e.U] && !in[e.V] && w.flow[i] < e.W || in[e.V] && !in[e.U] && -w.flow[i] < e.W {
				in[e.U], in[e.V], again = true, true, true
			}
		}
	}
	var l []int
	for u, is := range in {
		if is {
			l = append(l, u)
		}
	}
	return l
}

// checkRest holds all that r tells against what went along edges.
func checkRest(t *testing.T, r *Rest, want *gone) {
	t.Helper()
	checkSums(t, r, want)
	for v := range want.n {
		if got, l := r.Reach(v), want.reach(v); !slices.Equal(got, l) {
			t.Fatalf("Reach(%d) is %v, not %v, where %v went along %v", v, got, l, want.flow, want.edges)
		}
	}
}

// checkSums holds all that r tells but Reach of the vertices that there are.
func checkSums(t *testing.T, r *Rest, want *gone) {
	t.Helper()
	for i := range want.arcs() {
		if got := r.Left(i); got != want.left(i) {
			t.Fatalf("Left(%d) is %d, not %d, where %v went along %v", i, got, want.left(i), want.flow, want.edges)
		}
	}
	for e, x := range want.flow {
		if got := r.Flow(e); got != x {
			t.Fatalf("Flow(%d) is %d, not %d", e, got, x)
		}
	}
	if got := r.Flows(); !slices.Equal(got, want.flow) {
		t.Fatalf("Flows is %v, not %v", got, want.flow)
	}
	for v, x := range want.excess() {
		if got := r.Excess(v); got != x {
			t.Fatalf("Excess(%d) is %d, not %d, where %v went along %v", v, got, x, want.flow, want.edges)
		}
	}
	checkArcs(t, r.Arcs(), want)
	checkFollows(t, r)
	checkBeyond(t, r)
}

// checkArcs holds arcs against the edges, along which things may have gone.
func checkArcs(t *testing.T, a *csr.Arcs, want *gone) {
	t.Helper()
	if a.N() != want.n || a.Len() != want.arcs() {
		t.Fatalf("%d vertices and %d arcs, not %d and %d", a.N(), a.Len(), want.n, want.arcs())
	}
	for i, e := range want.edges {
		there, back := 2*i, 2*i+1
		if a.Tail(there) != e.U || a.Head(there) != e.V || a.Tail(back) != e.V || a.Head(back) != e.U || a.Cap(there) != e.W || a.Cap(back) != e.W {
			t.Fatalf("arcs %d and %d are not those of %v", there, back, e)
		}
	}
}

// checkFollows holds what r tells against itself: what is left of both arcs of an edge is twice what it weighs, and all excess together is 0.
func checkFollows(t *testing.T, r *Rest) {
	t.Helper()
	a := r.Arcs()
	for i := range a.Len() {
		if r.Left(i) < 0 || r.Left(i)+r.Left(csr.Back(i)) != 2*a.Cap(i) {
			t.Fatalf("%d and %d are left of the arcs of an edge of %d", r.Left(i), r.Left(csr.Back(i)), a.Cap(i))
		}
	}
	sum := int64(0)
	for v := range a.N() {
		sum += r.Excess(v)
	}
	if sum != 0 {
		t.Fatalf("all excess together is %d", sum)
	}
}

// checkBeyond asks r for vertices, edges and arcs that there are not, and pushes along these.
func checkBeyond(t *testing.T, r *Rest) {
	t.Helper()
	n, many := r.Arcs().N(), r.Arcs().Len()
	for _, i := range slices.Concat(beyond, []int{-n, n, n + 1, n + 1<<32, -many, many, many + 1, many + 2, many + 1<<32, many / 2, many/2 + 1, math.MinInt + many/2 - 1, math.MinInt + many}) {
		if (i < 0 || i >= n) && (r.Excess(i) != 0 || len(r.Reach(i)) != 0) {
			t.Fatalf("%d of %d vertices: %d, %v", i, n, r.Excess(i), r.Reach(i))
		}
		if (i < 0 || i >= many) && (r.Left(i) != 0 || r.Push(i, 0) || r.Push(i, 1) || r.Push(i, -1)) {
			t.Fatalf("arc %d of %d: %d is left", i, many, r.Left(i))
		}
		if (i < 0 || i >= many/2) && r.Flow(i) != 0 {
			t.Fatalf("edge %d of %d: a flow of %d", i, many/2, r.Flow(i))
		}
	}
}

// push lets so much go along an arc of both, and holds what r says against what it has to.
func push(t *testing.T, r *Rest, want *gone, i int, x int64) {
	t.Helper()
	can := want.push(i, x)
	if got := r.Push(i, x); got != can {
		t.Fatalf("Push(%d, %d) is %v, not %v, of %v", i, x, got, can, want.edges)
	}
}

// strewn pushes many times along arcs that look like chance: some of what is left, all of it, nothing, more, and below 0.
func strewn(t *testing.T, r *Rest, want *gone, seed uint64, times int) {
	t.Helper()
	if want.arcs() == 0 {
		return
	}
	along := scatter.Below(seed, times, want.arcs())
	for at, word := range scatter.Words(seed+500, times) {
		left := want.left(along[at])
		x := left
		switch word % 8 {
		case 0:
			x = 0
		case 1:
			x = left + 1 + int64(word>>40)
		case 2:
			x = -1 - int64(word>>40)
		case 3, 4, 5:
			x = int64(word>>8) % (left + 1)
		}
		push(t, r, want, along[at], x)
	}
}

// P23.1, P23.2: the chapter's example.
func TestExample(t *testing.T) {
	r := New(graphs.Of(t, 2, lists.Edges(0, 1, 7)))
	if r.Left(0) != 7 || r.Left(1) != 7 || r.Flow(0) != 0 {
		t.Errorf("at first %d and %d are left", r.Left(0), r.Left(1))
	}
	if !r.Push(0, 5) || r.Left(0) != 2 || r.Left(1) != 12 || r.Flow(0) != 5 || r.Excess(0) != -5 || r.Excess(1) != 5 {
		t.Errorf("%d and %d are left", r.Left(0), r.Left(1))
	}
	checkRest(t, r, &gone{2, lists.Edges(0, 1, 7), []int64{5}})
}

// P23.1, P23.2: what is left of a graph that is written down; its edges are 0 1 of 4, 0 3 of 7, 1 2 of 3, 1 3 of 2 and 2 3 of 9, merged.
func TestWritten(t *testing.T) {
	r := New(graphs.Of(t, 6, lists.Edges(3, 2, 9, 3, 0, 2, 2, 2, 9, 1, 0, 4, 0, 3, 5, 4, 1, 0, 2, 1, 3, 3, 1, 2)))
	for _, p := range []struct {
		i  int
		x  int64
		ok bool
	}{{0, 4, true}, {0, 1, false}, {0, 0, true}, {4, 2, true}, {4, 2, false}, {8, 9, true}, {6, 2, true}, {3, 7, true}, {3, 8, false}, {2, 5, true}, {2, 10, false}, {10, 0, false}, {-1, 0, false}, {7, -1, false}} {
		if got := r.Push(p.i, p.x); got != p.ok {
			t.Errorf("Push(%d, %d) is %v", p.i, p.x, got)
		}
	}
	for i, want := range []int64{0, 8, 9, 5, 1, 5, 0, 4, 0, 18, 0} {
		if got := r.Left(i); got != want {
			t.Errorf("Left(%d) is %d, not %d", i, got, want)
		}
	}
	if got := r.Flows(); !slices.Equal(got, []int64{4, -2, 2, 2, 9}) {
		t.Errorf("Flows is %v", got)
	}
	for v, want := range []int64{-2, 0, -7, 9, 0, 0} {
		if got := r.Excess(v); got != want {
			t.Errorf("Excess(%d) is %d, not %d", v, got, want)
		}
	}
	for v, want := range [][]int{{0, 1, 2, 3}, {0, 1, 2, 3}, {0, 1, 2, 3}, {0, 1, 2, 3}, {4}, {5}} {
		if got := r.Reach(v); !slices.Equal(got, want) {
			t.Errorf("Reach(%d) is %v, not %v", v, got, want)
		}
	}
	// Then nothing is left from 3, nor from 1 and 2 to others.
	if !r.Push(3, 5) || !r.Push(7, 4) || !r.Push(9, 18) || !r.Push(1, 8) {
		t.Error("Push")
	}
	for v, want := range [][]int{{0, 1, 2, 3}, {1, 2, 3}, {1, 2, 3}, {3}, {4}, {5}} {
		if got := r.Reach(v); !slices.Equal(got, want) {
			t.Errorf("Reach(%d) is %v, not %v", v, got, want)
		}
	}
	checkRest(t, r, &gone{6, lists.Edges(0, 1, 4, 0, 3, 7, 1, 2, 3, 1, 3, 2, 2, 3, 9), []int64{-4, -7, 2, -2, -9}})
}

// P23.1 to P23.3: at first all of each arc is left.
func TestAtFirst(t *testing.T) {
	lists.Each(4, lists.Edges(0, 1, 1, 2, 1, 1<<31, 1, 1, 5, 0, 3, 1, 2, 0, 2, 1, 3, 0, 2, 3, 7), func(l []api.Edge) {
		for n := 4; n < 6; n++ {
			g := graphs.Of(t, n, l)
			r := New(g)
			for i := range 2 * g.M() {
				if r.Left(i) != g.Edges()[i/2].W {
					t.Fatalf("Left(%d) of %v is %d", i, g.Edges(), r.Left(i))
				}
			}
			checkRest(t, r, goneOf(g))
		}
	})
}

// along is how much goes along an arc.
type along struct {
	i int
	x int64
}

// P23.1 to P23.3: all short lists of pushes, of which some can't be.
func TestShortLists(t *testing.T) {
	g := graphs.Of(t, 4, lists.Edges(0, 1, 2, 1, 2, 1, 2, 0, 3))
	of := []along{{0, 1}, {0, 2}, {1, 1}, {1, 4}, {2, 3}, {3, 0}, {3, 5}, {4, 1}, {5, 1}, {5, 2}, {4, -1}, {6, 0}, {-1, 1}}
	lists.Each(4, of, func(l []along) {
		r, want := New(g), goneOf(g)
		for _, p := range l {
			push(t, r, want, p.i, p.x)
		}
		checkRest(t, r, want)
	})
}

// P23.2: all graphs of up to four vertices, of which each edge leads both ways, or one way alone, or back alone; and those of five whose edges lead one way.
func TestAllWays(t *testing.T) {
	for n := range 6 {
		pairs := 0
		var l []api.Edge
		for v := range n {
			for u := range v {
				l = append(l, api.Edge{U: u, V: v, W: 3})
				pairs++
			}
		}
		ways := 4
		if n == 5 {
			ways = 3
		}
		digits := make([]int, pairs)
		for {
			checkWays(t, n, l, digits)
			if !next(digits, ways) {
				break
			}
		}
	}
}

// next makes of the digits those of the next number, or says that there is none.
func next(digits []int, ways int) bool {
	for at := range digits {
		digits[at]++
		if digits[at] < ways {
			return true
		}
		digits[at] = 0
	}
	return false
}

// checkWays makes of each edge none, one that leads one way, back, or both, as the digits say.
func checkWays(t *testing.T, n int, l []api.Edge, digits []int) {
	t.Helper()
	var told []api.Edge
	for at, digit := range digits {
		if digit > 0 {
			told = append(told, l[at])
		}
	}
	g := graphs.Of(t, n, told)
	r, want := New(g), goneOf(g)
	for e, edge := range want.edges {
		place := slices.Index(l, edge)
		switch digits[place] {
		case 1:
			push(t, r, want, 2*e+1, 3)
		case 2:
			push(t, r, want, 2*e, 3)
		case 3:
			push(t, r, want, 2*e, int64(e%3)-1)
		}
	}
	for v := range n {
		if got, reached := r.Reach(v), want.reach(v); !slices.Equal(got, reached) {
			t.Fatalf("Reach(%d) is %v, not %v, where %v went along %v", v, got, reached, want.flow, want.edges)
		}
	}
}

// P23.1 to P23.3: many pushes, in graphs of few and of many edges.
func TestManyPushes(t *testing.T) {
	for _, c := range []struct{ n, m int }{{1, 9}, {2, 50}, {5, 3}, {7, 9}, {9, 30}, {12, 14}, {30, 40}, {30, 400}, {64, 64}, {65, 130}, {100, 80}} {
		for seed := range uint64(8) {
			g := graphs.Of(t, c.n, scatter.Edges(seed, c.n, c.m))
			r, want := New(g), goneOf(g)
			for round := range uint64(10) {
				strewn(t, r, want, 20*seed+round, 1+g.M()/2)
				checkRest(t, r, want)
			}
		}
	}
}

// P23.1: what goes along each arc may be from 0 to what is left, and nothing else; what can't be changes nothing.
func TestEndsOfPushes(t *testing.T) {
	for _, w := range []int64{1, 2, 3, 1 << 20, api.MaxW - 1, api.MaxW} {
		g := graphs.Of(t, 3, lists.Edges(2, 0, w, 1, 2, 1))
		for _, flow := range []int64{-w, -w + 1, -1, 0, 1, w - 1, w} {
			r, want := New(g), goneOf(g)
			push(t, r, want, 0, max(flow, 0))
			push(t, r, want, 1, max(-flow, 0))
			for i := range 2 {
				left := r.Left(i)
				for _, x := range []int64{math.MinInt64, math.MinInt64 + 1, -1 << 32, -left - 1, -left, -1, left + 1, left + 2, 2*left + 1, 2*w + 1, 1 << 33, 1<<33 + 1, 1 << 52, 1 << 62, math.MaxInt64 - 1, math.MaxInt64} {
					if x == 0 {
						continue
					}
					if r.Push(i, x) {
						t.Fatalf("Push(%d, %d) of %d", i, x, left)
					}
					checkRest(t, r, want)
				}
				for _, x := range []int64{0, 1, left / 2, left - 1, left} {
					twin, wantTwin := r.Twin(), want.twin()
					push(t, twin, wantTwin, i, x)
					checkRest(t, twin, wantTwin)
				}
			}
		}
	}
}

// P23.1, P23.2: what goes along an arc and back by the other one leaves all as it was, and what goes by parts is as what goes at once.
func TestThereAndBack(t *testing.T) {
	g := graphs.Of(t, 12, scatter.Edges(2, 12, 40))
	r, want := New(g), goneOf(g)
	strewn(t, r, want, 7, 30)
	for i := range 2 * g.M() {
		left := r.Left(i)
		once, parts := r.Twin(), r.Twin()
		if !once.Push(i, left) || !parts.Push(i, left/3) || !parts.Push(i, left-left/3) {
			t.Fatalf("%d along %d", left, i)
		}
		then := want.twin()
		then.push(i, left)
		checkRest(t, once, then)
		checkRest(t, parts, then)
		if !once.Push(csr.Back(i), left) {
			t.Fatalf("%d back along %d", left, i)
		}
		checkRest(t, once, want)
	}
}

// P23.1 to P23.3: as many vertices as there may be, one after the other: along the way all goes, step by step, so that nothing leads on from where it is full.
func TestLongWay(t *testing.T) {
	var l []api.Edge
	for v := range api.MaxN - 1 {
		l = append(l, api.Edge{U: v + 1, V: v, W: int64(v) + 1})
	}
	g := graphs.Of(t, api.MaxN, l)
	r, want := New(g), goneOf(g)
	every := make([]int, api.MaxN)
	for v := range every {
		every[v] = v
	}
	for _, full := range []int{0, 1, 2047, api.MaxN - 2} {
		checkSums(t, r, want)
		if !slices.Equal(r.Reach(0), every) || !slices.Equal(r.Reach(api.MaxN-1), every) {
			t.Fatal("not all are reached")
		}
		push(t, r, want, 2*full, int64(full)+1)
		if got := r.Reach(0); !slices.Equal(got, every[:full+1]) {
			t.Fatalf("%d are reached, not %d", len(got), full+1)
		}
		if got := r.Reach(full + 1); !slices.Equal(got, every) {
			t.Fatalf("back %d are reached", len(got))
		}
		push(t, r, want, 2*full+1, 2*int64(full)+2)
		if got := r.Reach(api.MaxN - 1); !slices.Equal(got, every[full+1:]) {
			t.Fatalf("%d are reached, not %d", len(got), api.MaxN-full-1)
		}
		push(t, r, want, 2*full, 1)
	}
	for e := range want.edges {
		push(t, r, want, 2*e, r.Left(2*e))
	}
	checkSums(t, r, want)
	if got := r.Reach(2000); !slices.Equal(got, every[:2001]) {
		t.Errorf("%d are reached", len(got))
	}
}

// P23.1 to P23.3: as many vertices as there may be, all around one of them.
func TestAllAround(t *testing.T) {
	for _, middle := range []int{0, 1, 2047, api.MaxN - 1} {
		var l []api.Edge
		for v := range api.MaxN {
			l = append(l, api.Edge{U: v, V: middle, W: api.MaxW})
		}
		g := graphs.Of(t, api.MaxN, l)
		r, want := New(g), goneOf(g)
		for _, i := range r.Arcs().Out(middle) {
			push(t, r, want, csr.Back(i), api.MaxW)
		}
		checkSums(t, r, want)
		if r.Excess(middle) != (api.MaxN-1)*api.MaxW || len(r.Reach(middle)) != api.MaxN || !slices.Equal(r.Reach(middle^1), []int{middle ^ 1}) {
			t.Errorf("%d of %d", r.Excess(middle), middle)
		}
		for _, i := range r.Arcs().Out(middle) {
			push(t, r, want, i, 2*api.MaxW)
		}
		checkSums(t, r, want)
		if r.Excess(middle) != -(api.MaxN-1)*api.MaxW || !slices.Equal(r.Reach(middle), []int{middle}) || !slices.Equal(r.Reach(middle^1), slices.Sorted(slices.Values([]int{middle, middle ^ 1}))) {
			t.Errorf("%d of %d", r.Excess(middle), middle)
		}
	}
}

// P23.1 to P23.3: as many arcs as there may be.
func TestMostArcs(t *testing.T) {
	n, l := lists.Most()
	g := graphs.Of(t, n, l)
	r, want := New(g), goneOf(g)
	if r.Arcs().Len() != 2*api.MaxM {
		t.Fatalf("%d arcs", r.Arcs().Len())
	}
	strewn(t, r, want, 3, 1<<19)
	checkSums(t, r, want)
	for v := 0; v < n; v += 300 {
		if !slices.Equal(r.Reach(v), want.reach(v)) {
			t.Errorf("Reach(%d)", v)
		}
	}
	// All goes to the higher ends, so that nothing leads down.
	for e := range want.edges {
		push(t, r, want, 2*e+1, r.Left(2*e+1))
	}
	checkSums(t, r, want)
	for v := 0; v < n; v += 300 {
		if !slices.Equal(r.Reach(v), want.reach(v)) {
			t.Errorf("Reach(%d)", v)
		}
	}
}

// P23.1, P23.2: an edge may weigh as much as one that was merged of many, and twice that may be left of an arc.
func TestHeaviest(t *testing.T) {
	g := graphs.Of(t, 4, slices.Repeat(lists.Edges(3, 1, api.MaxW), api.MaxM))
	r, want := New(g), goneOf(g)
	checkRest(t, r, want)
	for _, p := range []along{{0, 1<<51 + 1}, {0, 1 << 51}, {0, 1}, {1, 1<<52 + 1}, {1, 1 << 52}, {1, 1}, {0, 1 << 52}, {1, 1 << 51}} {
		push(t, r, want, p.i, p.x)
		checkRest(t, r, want)
	}
	if !r.Push(0, 1<<51) || r.Left(0) != 0 || r.Left(1) != 1<<52 || r.Flow(0) != 1<<51 || r.Excess(1) != -1<<51 || r.Excess(3) != 1<<51 {
		t.Errorf("%d and %d are left", r.Left(0), r.Left(1))
	}
}

// P23.1, P23.2: of nil there is nothing, and nothing can be done.
func TestNil(t *testing.T) {
	var r *Rest
	if r.Arcs() != nil || r.Twin() != nil || len(r.Flows()) != 0 {
		t.Errorf("%v, %v, %v", r.Arcs(), r.Twin(), r.Flows())
	}
	for _, i := range append(slices.Clone(beyond), 0, 1, 2, 3) {
		for _, x := range []int64{math.MinInt64, -1, 0, 1, math.MaxInt64} {
			if r.Push(i, x) {
				t.Errorf("Push(%d, %d)", i, x)
			}
		}
		if r.Left(i) != 0 || r.Flow(i) != 0 || r.Excess(i) != 0 || len(r.Reach(i)) != 0 {
			t.Errorf("%d: %d, %d, %d, %v", i, r.Left(i), r.Flow(i), r.Excess(i), r.Reach(i))
		}
	}
}

// P23.1, P23.2, P7: of a nil graph, of one without vertices and of those without edges there are no arcs.
func TestNone(t *testing.T) {
	graph := []*net.Net{nil}
	for n := range 5 {
		graph = append(graph, graphs.Of(t, n, nil), graphs.Of(t, n, make([]api.Edge, n)))
	}
	for _, g := range graph {
		for _, r := range []*Rest{New(g), New(g).Twin()} {
			if r == nil || r.Arcs() == nil || len(r.Flows()) != 0 {
				t.Fatalf("%v, of %d vertices", r, g.N())
			}
			for i := -5; i < 5; i++ {
				for _, x := range []int64{math.MinInt64, -1, 0, 1, math.MaxInt64} {
					if r.Push(i, x) {
						t.Errorf("Push(%d, %d)", i, x)
					}
				}
			}
			checkRest(t, r, goneOf(g))
		}
	}
}

// P23.2: a twin is as the one it was made of, and both go on by themselves, twins of twins too.
func TestTwin(t *testing.T) {
	for seed := range uint64(10) {
		g := graphs.Of(t, 9, scatter.Edges(seed, 9, 20))
		all, wants := []*Rest{New(g)}, []*gone{goneOf(g)}
		for round := range uint64(6) {
			for at := range len(all) {
				all, wants = append(all, all[at].Twin()), append(wants, wants[at].twin())
			}
			for at, r := range all {
				checkRest(t, r, wants[at])
			}
			for at, r := range all {
				strewn(t, r, wants[at], 1000*seed+100*round+uint64(at), 5)
			}
			for at, r := range all {
				checkRest(t, r, wants[at])
			}
		}
	}
}

// P4: what is answered is new memory, up to its capacity, and no other one of the same graph changes with it.
func TestAnswersAreNewMemory(t *testing.T) {
	g := graphs.Of(t, 20, scatter.Edges(3, 20, 90))
	r, want, other := New(g), goneOf(g), New(g)
	strewn(t, r, want, 5, 100)
	for v := range 20 {
		flows, reached := r.Flows(), r.Reach(v)
		lists.Spoil(r.Flows())
		lists.Spoil(r.Reach(v))
		lists.Spoil(r.Arcs().Out(v))
		if !slices.Equal(flows, want.flow) || !slices.Equal(reached, want.reach(v)) {
			t.Fatalf("two answers of %d share memory", v)
		}
		lists.Spoil(flows)
		lists.Spoil(reached)
		checkRest(t, r, want)
	}
	checkRest(t, other, goneOf(g))
}

// P4: what was answered ahead stays as it is, whatever goes along arcs then.
func TestAnswersStay(t *testing.T) {
	g := graphs.Of(t, 20, scatter.Edges(8, 20, 60))
	r, want := New(g), goneOf(g)
	strewn(t, r, want, 6, 40)
	arcs, flows, reached := r.Arcs(), r.Flows(), r.Reach(3)
	before, reachedBefore := slices.Clone(want.flow), want.reach(3)
	strewn(t, r, want, 9, 500)
	if slices.Equal(before, want.flow) || !slices.Equal(flows, before) || !slices.Equal(reached, reachedBefore) {
		t.Errorf("%v and %v became %v and %v", before, reachedBefore, flows, reached)
	}
	checkArcs(t, arcs, want)
	checkRest(t, r, want)
}

// P4: the graph is not changed, and two of one graph go on by themselves.
func TestGraphIsNotChanged(t *testing.T) {
	told := scatter.Edges(4, 15, 60)
	g, same := graphs.Of(t, 15, told), graphs.Of(t, 15, told)
	a, b := New(g), New(g)
	wantA, wantB := goneOf(g), goneOf(g)
	for seed := range uint64(10) {
		strewn(t, a, wantA, seed, 30)
		strewn(t, b, wantB, seed+50, 30)
		checkRest(t, a, wantA)
		checkRest(t, b, wantB)
	}
	clear(told)
	checkRest(t, a, wantA)
	if !net.Same(g, same) {
		t.Error("another graph")
	}
	checkRest(t, New(g), goneOf(same))
}

// P5: what is told hangs on the pushes alone, whatever is asked between them and in whatever order they came, where each can be.
func TestAgain(t *testing.T) {
	g := graphs.Of(t, 10, scatter.Edges(6, 10, 30))
	first := New(g)
	want := goneOf(g)
	for i := 0; i < 2*g.M(); i += 3 {
		push(t, first, want, i, want.left(i)/2)
		checkRest(t, first, want)
	}
	backwards, wantBack := New(g), goneOf(g)
	for i := (2*g.M() - 1) / 3 * 3; i >= 0; i -= 3 {
		x := want.flow[i/2]
		if i%2 == 1 {
			x = -x
		}
		push(t, backwards, wantBack, i, x)
	}
	for range 3 {
		checkRest(t, backwards, want)
		checkRest(t, first, want)
	}
}
