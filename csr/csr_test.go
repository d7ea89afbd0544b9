package csr

import (
	"cmp"
	"math"
	"slices"
	"testing"

	"strait/api"
	"strait/graphs"
	"strait/lists"
	"strait/net"
	"strait/scatter"
)

// Numbers that are no vertices and no arcs of any graph, though some are of a greater one.
var beyond = []int{math.MinInt, math.MinInt + 1, math.MinInt32, -1 << 32, -1<<32 + 1, -2 * api.MaxM, -api.MaxN, -3, -2, -1, 2 * api.MaxM, 2*api.MaxM + 1, 1 << 31, 1 << 32, 1<<32 + 1, math.MaxInt - 1, math.MaxInt}

// arc is what the chapter says of one.
type arc struct {
	tail, head int
	cap        int64
}

// wantArcs are the two arcs of each edge, in order.
func wantArcs(merged []api.Edge) []arc {
	var all []arc
	for _, e := range merged {
		all = append(all, arc{e.U, e.V, e.W}, arc{e.V, e.U, e.W})
	}
	return all
}

// wantOut are of each vertex the arcs that lead from it, put in order by their heads.
func wantOut(n int, arcs []arc) [][]int {
	out := make([][]int, n)
	for i, a := range arcs {
		out[a.tail] = append(out[a.tail], i)
	}
	for _, l := range out {
		slices.SortFunc(l, func(i, j int) int { return cmp.Compare(arcs[i].head, arcs[j].head) })
	}
	return out
}

// checkArcs holds all that a tells against the arcs of n vertices and these merged edges.
func checkArcs(t *testing.T, a *Arcs, n int, merged []api.Edge) {
	t.Helper()
	want := wantArcs(merged)
	if a.N() != n || a.Len() != len(want) {
		t.Fatalf("%d vertices and %d arcs, not %d and %d", a.N(), a.Len(), n, len(want))
	}
	for i, w := range want {
		if got := (arc{a.Tail(i), a.Head(i), a.Cap(i)}); got != w {
			t.Fatalf("arc %d is %v, not %v", i, got, w)
		}
	}
	for v, w := range wantOut(n, want) {
		if got := a.Out(v); !slices.Equal(got, w) {
			t.Fatalf("Out(%d) is %v, not %v", v, got, w)
		}
	}
	checkLeads(t, a)
	checkBeyond(t, a)
}

// checkLeads holds what a tells against itself: each arc leads out of its tail, just once, and the arc that leads back the other way.
func checkLeads(t *testing.T, a *Arcs) {
	t.Helper()
	met := make([]int, a.Len())
	for v := range a.N() {
		last := -1
		for _, i := range a.Out(v) {
			met[i]++
			back := Back(i)
			if a.Tail(i) != v || a.Head(i) <= last || a.Tail(back) != a.Head(i) || a.Head(back) != v || a.Cap(back) != a.Cap(i) || Back(back) != i || Edge(back) != Edge(i) {
				t.Fatalf("arc %d of %d, and %d that leads back", i, v, back)
			}
			last = a.Head(i)
		}
	}
	for i, times := range met {
		if times != 1 {
			t.Fatalf("arc %d leads out of a vertex %d times", i, times)
		}
	}
}

// checkBeyond asks a for vertices and arcs that there are not.
func checkBeyond(t *testing.T, a *Arcs) {
	t.Helper()
	n, many := a.N(), a.Len()
	for _, v := range slices.Concat(beyond, []int{-n, n, n + 1, n + 1<<32}) {
		if (v < 0 || v >= n) && len(a.Out(v)) != 0 {
			t.Fatalf("Out(%d) of %d vertices is %v", v, n, a.Out(v))
		}
	}
	for _, i := range slices.Concat(beyond, []int{-many, many, many + 1, many + 2, many + 1<<32, many + 1<<32 + 1}) {
		if got := (arc{a.Tail(i), a.Head(i), a.Cap(i)}); (i < 0 || i >= many) && got != (arc{-1, -1, 0}) {
			t.Fatalf("arc %d of %d is %v", i, many, got)
		}
	}
}

// P19.1, P19.2: the chapter's example.
func TestExample(t *testing.T) {
	a := New(graphs.Of(t, 2, lists.Edges(0, 1, 5)))
	if a.Tail(0) != 0 || a.Head(0) != 1 || a.Tail(1) != 1 || a.Head(1) != 0 || a.Cap(0) != 5 || a.Cap(1) != 5 {
		t.Error("arcs 0 and 1")
	}
	if a.N() != 2 || a.Len() != 2 || !slices.Equal(a.Out(0), []int{0}) || !slices.Equal(a.Out(1), []int{1}) {
		t.Errorf("%d vertices, %d arcs, %v, %v", a.N(), a.Len(), a.Out(0), a.Out(1))
	}
	checkArcs(t, a, 2, lists.Edges(0, 1, 5))
}

// P19.1: arcs that are written down; the graph's edges are 0 1, 0 3, 1 3 and 2 3, merged.
func TestWritten(t *testing.T) {
	a := New(graphs.Of(t, 6, lists.Edges(3, 2, 9, 3, 0, 2, 2, 2, 9, 1, 0, 4, 0, 3, 5, 4, 1, 0, 3, 1, 1<<31)))
	if a.N() != 6 || a.Len() != 8 {
		t.Fatalf("%d vertices, %d arcs", a.N(), a.Len())
	}
	for i, want := range []arc{{0, 1, 4}, {1, 0, 4}, {0, 3, 7}, {3, 0, 7}, {1, 3, 1 << 31}, {3, 1, 1 << 31}, {2, 3, 9}, {3, 2, 9}} {
		if got := (arc{a.Tail(i), a.Head(i), a.Cap(i)}); got != want {
			t.Errorf("arc %d is %v, not %v", i, got, want)
		}
	}
	for v, want := range [][]int{{0, 2}, {1, 4}, {6}, {3, 5, 7}, nil, nil} {
		if got := a.Out(v); !slices.Equal(got, want) {
			t.Errorf("Out(%d) is %v, not %v", v, got, want)
		}
	}
	checkBeyond(t, a)
}

// P19.1, P19.3: all graphs that short lists of edges make, of few vertices.
func TestShortLists(t *testing.T) {
	lists.Each(4, lists.Edges(0, 1, 1, 2, 1, 1<<31, 1, 1, 5, 0, 3, 1, 2, 0, 2, 1, 3, 0, 2, 3, 7), func(l []api.Edge) {
		for n := 4; n < 6; n++ {
			g := graphs.Of(t, n, l)
			checkArcs(t, New(g), n, g.Edges())
		}
	})
}

// P19.1, P19.3: graphs of few and of many edges; the edges may have been told in any order and either way round.
func TestManyEdges(t *testing.T) {
	for _, c := range []struct{ n, m int }{{1, 9}, {2, 50}, {5, 3}, {7, 200}, {30, 40}, {64, 64}, {65, 4000}, {200, 150}, {150, 20000}} {
		for seed := range uint64(4) {
			g := graphs.Of(t, c.n, scatter.Edges(seed, c.n, c.m))
			checkArcs(t, New(g), c.n, g.Edges())
		}
	}
}

// P19.1, P19.3: graphs in which all vertices have an edge with all others, of each small number of vertices and of some greater ones.
func TestAllPairs(t *testing.T) {
	for _, n := range []int{0, 1, 2, 3, 4, 5, 6, 7, 8, 9, 16, 63, 64, 65, 130} {
		var l []api.Edge
		for v := range n {
			for u := range v {
				l = append(l, api.Edge{U: v, V: u, W: int64(n*v + u + 1)})
			}
		}
		g := graphs.Of(t, n, l)
		a := New(g)
		checkArcs(t, a, n, g.Edges())
		for v := range n {
			if len(a.Out(v)) != n-1 {
				t.Fatalf("Out(%d) of %d vertices is %v", v, n, a.Out(v))
			}
		}
	}
}

// P19.1, P19.3: as many vertices as there may be: alone, all around each one of some, and with edges all over.
func TestMostVertices(t *testing.T) {
	checkArcs(t, New(graphs.Of(t, api.MaxN, nil)), api.MaxN, nil)
	for _, middle := range []int{0, 1, 2047, api.MaxN - 1} {
		var l []api.Edge
		for v := range api.MaxN {
			l = append(l, api.Edge{U: v, V: middle, W: int64(v) + 1})
		}
		g := graphs.Of(t, api.MaxN, l)
		a := New(g)
		checkArcs(t, a, api.MaxN, g.Edges())
		if a.Len() != 2*(api.MaxN-1) || len(a.Out(middle)) != api.MaxN-1 {
			t.Errorf("%d arcs, %d around %d", a.Len(), len(a.Out(middle)), middle)
		}
	}
	g := graphs.Of(t, api.MaxN, scatter.Edges(5, api.MaxN, 1<<16))
	checkArcs(t, New(g), api.MaxN, g.Edges())
}

// P19.1, P19.3: as many arcs as there may be, two of each of as many edges as there may be.
func TestMostArcs(t *testing.T) {
	n, l := lists.Most()
	g := graphs.Of(t, n, l)
	a := New(g)
	if a.Len() != 2*api.MaxM {
		t.Fatalf("%d arcs", a.Len())
	}
	checkArcs(t, a, n, g.Edges())
}

// P19.1: arcs may carry as much as an edge may weigh that was merged of many.
func TestHeaviest(t *testing.T) {
	g := graphs.Of(t, 4, slices.Repeat(lists.Edges(3, 1, api.MaxW), api.MaxM))
	a := New(g)
	if a.Len() != 2 || a.Cap(0) != 1<<51 || a.Cap(1) != 1<<51 {
		t.Errorf("%d arcs of %d and %d", a.Len(), a.Cap(0), a.Cap(1))
	}
	checkArcs(t, a, 4, lists.Edges(1, 3, 1<<51))
}

// P19.1, P7: of nil, of a nil graph and of graphs without edges there are no arcs.
func TestNone(t *testing.T) {
	checkArcs(t, nil, 0, nil)
	checkArcs(t, New(nil), 0, nil)
	for n := range 5 {
		checkArcs(t, New(graphs.Of(t, n, nil)), n, nil)
		checkArcs(t, New(graphs.Of(t, n, make([]api.Edge, n))), n, nil)
	}
	for i := -5; i < 5; i++ {
		for _, a := range []*Arcs{nil, New(nil), New(graphs.Of(t, 0, nil))} {
			if a.N() != 0 || a.Len() != 0 || len(a.Out(i)) != 0 || a.Tail(i) != -1 || a.Head(i) != -1 || a.Cap(i) != 0 {
				t.Errorf("%d: %v", i, a)
			}
		}
	}
}

// P19.2, P19.3: of each two numbers from 0 on the one leads back from the other, and both have one edge.
func TestBackAndEdge(t *testing.T) {
	for e := range 3000 {
		checkTwo(t, e)
		checkTwo(t, math.MaxInt/2-e)
	}
	for place := range 62 {
		for e := -2; e < 3; e++ {
			checkTwo(t, max(0, 1<<place+e))
		}
	}
	for _, word := range scatter.Words(7, 20000) {
		checkTwo(t, int(word>>2))
	}
}

// checkTwo holds both arcs of the edge e against what the chapter says.
func checkTwo(t *testing.T, e int) {
	t.Helper()
	there, back := 2*e, 2*e+1
	if Back(there) != back || Back(back) != there {
		t.Fatalf("Back of %d and %d: %d, %d", there, back, Back(there), Back(back))
	}
	if Edge(there) != e || Edge(back) != e {
		t.Fatalf("Edge of %d and %d: %d, %d", there, back, Edge(there), Edge(back))
	}
}

// P19.2: ends of the numbers, and below 0 none.
func TestBackAndEdgeOfNone(t *testing.T) {
	if Back(math.MaxInt) != math.MaxInt-1 || Back(math.MaxInt-1) != math.MaxInt || Edge(math.MaxInt) != math.MaxInt/2 || Back(0) != 1 || Back(1) != 0 || Edge(0) != 0 || Edge(1) != 0 || Edge(2) != 1 {
		t.Error("ends")
	}
	below := []int{math.MinInt, math.MinInt + 1, math.MinInt + 2, math.MinInt32 - 1, math.MinInt32, -1 << 32, -1<<32 + 1}
	for i := -1; i > -3000; i-- {
		below = append(below, i)
	}
	for _, word := range scatter.Words(8, 20000) {
		below = append(below, int(word|1<<63))
	}
	for _, i := range below {
		if Back(i) != -1 || Edge(i) != -1 {
			t.Fatalf("%d: %d, %d", i, Back(i), Edge(i))
		}
	}
}

// P4: what is answered is new memory, up to its capacity.
func TestAnswersAreNewMemory(t *testing.T) {
	g := graphs.Of(t, 20, scatter.Edges(3, 20, 90))
	a := New(g)
	for v := range 20 {
		for _, out := range [][]int{a.Out(v), a.Out(v)} {
			lists.Spoil(out)
		}
		first, second := append(a.Out(v), 70), append(a.Out(v), 71)
		if first[len(first)-1] != 70 || second[len(second)-1] != 71 {
			t.Errorf("two lists of %d share memory", v)
		}
	}
	checkArcs(t, a, 20, g.Edges())
}

// P4: the graph is not changed, and arcs of one graph do not share what they tell of.
func TestGraphIsNotChanged(t *testing.T) {
	l := scatter.Edges(4, 30, 200)
	g, twin := graphs.Of(t, 30, l), graphs.Of(t, 30, l)
	a, b := New(g), New(g)
	for v := range 30 {
		clear(a.Out(v))
	}
	clear(l)
	if !net.Same(g, twin) {
		t.Error("another graph")
	}
	checkArcs(t, a, 30, twin.Edges())
	checkArcs(t, b, 30, twin.Edges())
	checkArcs(t, New(twin), 30, g.Edges())
}

// P5: what is told is the same each time, whatever was asked ahead.
func TestAgain(t *testing.T) {
	g := graphs.Of(t, 40, scatter.Edges(6, 40, 300))
	a := New(g)
	for range 20 {
		checkArcs(t, a, 40, g.Edges())
		b := New(g)
		for v := range 40 {
			if !slices.Equal(a.Out(v), b.Out(v)) {
				t.Fatalf("Out(%d) is %v and %v", v, a.Out(v), b.Out(v))
			}
		}
	}
}

// Each vertex's part of the one list has room for its own arcs alone, so that nothing that is put into it comes into the next one's.
func TestParts(t *testing.T) {
	a := New(graphs.Of(t, 50, scatter.Edges(9, 50, 400)))
	for v, part := range a.out {
		if cap(part) != len(part) {
			t.Errorf("%d: room for %d, not %d", v, cap(part), len(part))
		}
	}
}
