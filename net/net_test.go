package net

import (
	"math"
	"slices"
	"testing"

	"strait/api"
	"strait/edge"
	"strait/lists"
	"strait/scatter"
)

// Numbers that are no vertices and no edges of any graph.
var beyond = []int{math.MinInt, math.MinInt + 1, -1 << 32, -api.MaxN, -2, -1, api.MaxN, api.MaxM, 1 << 32, 1<<32 + 1, math.MaxInt - 1, math.MaxInt}

// table is what vertices weigh to each other, both ways: a graph told without any edges.
type table [][]int64

// tableOf adds what each edge of l weighs, one by one.
func tableOf(n int, l []api.Edge) table {
	all := make(table, n)
	for v := range all {
		all[v] = make([]int64, n)
	}
	for _, e := range l {
		if e.U != e.V {
			all[e.U][e.V] += e.W
			all[e.V][e.U] += e.W
		}
	}
	return all
}

// edges are the table's, by going over all pairs.
func (all table) edges() []api.Edge {
	var l []api.Edge
	for u := range all {
		for v := u + 1; v < len(all); v++ {
			if all[u][v] != 0 {
				l = append(l, api.Edge{U: u, V: v, W: all[u][v]})
			}
		}
	}
	return l
}

// same tells whether all pairs of both weigh the same.
func (all table) same(other table) bool {
	return slices.EqualFunc(all, other, slices.Equal[[]int64])
}

// made is the graph, where there has to be one.
func made(t *testing.T, n int, l []api.Edge) *Net {
	t.Helper()
	g, why, at := New(n, l)
	if g == nil || why != api.OK || at != 0 {
		t.Fatalf("New(%d, %d edges) is %v, %d, %d", n, len(l), g, why, at)
	}
	return g
}

// checkNone holds what New tells against an error and its place.
func checkNone(t *testing.T, n int, l []api.Edge, why api.Errno, at int) {
	t.Helper()
	g, gotWhy, gotAt := New(n, l)
	if g != nil || gotWhy != why || gotAt != at {
		t.Fatalf("New(%d, %d edges) is %v, %d, %d, not nil, %d, %d", n, len(l), g, gotWhy, gotAt, why, at)
	}
}

// checkGraph holds all that g tells against the table.
func checkGraph(t *testing.T, g *Net, want table) {
	t.Helper()
	l := want.edges()
	if g.N() != len(want) || g.M() != len(l) || !slices.Equal(g.Edges(), l) {
		t.Fatalf("%d vertices and the edges %v, not %d and %v", g.N(), g.Edges(), len(want), l)
	}
	for i, e := range l {
		if got, ok := g.Edge(i); got != e || !ok {
			t.Fatalf("Edge(%d) of %v is %v, %v", i, l, got, ok)
		}
	}
	total := int64(0)
	for _, e := range l {
		total += e.W
	}
	if got := g.Total(); got != total {
		t.Fatalf("Total of %v is %d, not %d", l, got, total)
	}
	checkVertices(t, g, want)
	checkBeyond(t, g)
}

// checkVertices holds what g tells of its vertices against the table, and all degrees together against the total.
func checkVertices(t *testing.T, g *Net, want table) {
	t.Helper()
	degrees := int64(0)
	for v, row := range want {
		var near []int
		degree := int64(0)
		for u, w := range row {
			if got := g.Weight(v, u); got != w {
				t.Fatalf("Weight(%d, %d) is %d, not %d", v, u, got, w)
			}
			if w != 0 {
				near = append(near, u)
			}
			degree += w
		}
		if got := g.Degree(v); got != degree {
			t.Fatalf("Degree(%d) is %d, not %d", v, got, degree)
		}
		if got := g.Near(v); !slices.Equal(got, near) {
			t.Fatalf("Near(%d) is %v, not %v", v, got, near)
		}
		degrees += g.Degree(v)
	}
	if degrees != 2*g.Total() {
		t.Fatalf("all degrees are %d, the total is %d", degrees, g.Total())
	}
}

// checkBeyond asks g for vertices and edges that there are not.
func checkBeyond(t *testing.T, g *Net) {
	t.Helper()
	n, m := g.N(), g.M()
	vertices := slices.Concat(beyond, []int{n, n + 1, -n, n + 1<<32})
	for _, v := range vertices {
		if v >= 0 && v < n {
			continue
		}
		if g.Degree(v) != 0 || len(g.Near(v)) != 0 {
			t.Fatalf("%d of %d vertices: %d, %v", v, n, g.Degree(v), g.Near(v))
		}
		for _, u := range []int{v, 0, 1, n - 1, n} {
			if g.Weight(u, v) != 0 || g.Weight(v, u) != 0 {
				t.Fatalf("%d and %d of %d vertices: %d, %d", u, v, n, g.Weight(u, v), g.Weight(v, u))
			}
		}
	}
	for _, i := range slices.Concat(beyond, []int{m, m + 1, m + 1<<32}) {
		if e, ok := g.Edge(i); (e != api.Edge{} || ok) && (i < 0 || i >= m) {
			t.Fatalf("Edge(%d) of %d is %v, %v", i, m, e, ok)
		}
	}
}

// turned is the list backwards, with every second edge the other way round.
func turned(l []api.Edge) []api.Edge {
	l = slices.Clone(l)
	slices.Reverse(l)
	for i, e := range l {
		if i%2 == 0 {
			l[i] = api.Edge{U: e.V, V: e.U, W: e.W}
		}
	}
	return l
}

// P16.1, P16.2: the chapter's example.
func TestExample(t *testing.T) {
	g := made(t, 2, lists.Edges(0, 1, 2, 0, 1, 3))
	if g.M() != 1 || !slices.Equal(g.Edges(), lists.Edges(0, 1, 5)) || g.Total() != 5 {
		t.Errorf("%d edges, %v", g.M(), g.Edges())
	}
}

// P16.1, P16.2: a graph that is written down.
func TestWritten(t *testing.T) {
	g := made(t, 5, lists.Edges(3, 0, 2, 2, 2, 9, 1, 0, 4, 0, 3, 5, 4, 1, 0, 3, 1, 1))
	if g.N() != 5 || g.M() != 3 || !slices.Equal(g.Edges(), lists.Edges(0, 1, 4, 0, 3, 7, 1, 3, 1)) || g.Total() != 12 {
		t.Errorf("%d vertices, %d edges, %v", g.N(), g.M(), g.Edges())
	}
	for v, want := range []struct {
		degree int64
		near   []int
	}{{11, []int{1, 3}}, {5, []int{0, 3}}, {0, nil}, {8, []int{0, 1}}, {0, nil}} {
		if g.Degree(v) != want.degree || !slices.Equal(g.Near(v), want.near) {
			t.Errorf("%d: %d, %v", v, g.Degree(v), g.Near(v))
		}
	}
	if g.Weight(0, 3) != 7 || g.Weight(3, 0) != 7 || g.Weight(2, 2) != 0 || g.Weight(0, 0) != 0 || g.Weight(1, 4) != 0 || g.Weight(4, 1) != 0 {
		t.Error("weights")
	}
}

// P16.1 to P16.3: all short lists of edges that may be, of few vertices.
func TestShortLists(t *testing.T) {
	of := lists.Edges(0, 1, 1, 1, 0, 2, 1, 1, 5, 2, 0, 3, 1, 2, 0, 2, 1, 4)
	lists.Each(4, of, func(l []api.Edge) {
		for n := 3; n < 5; n++ {
			before := slices.Clone(l)
			g := made(t, n, l)
			if !slices.Equal(l, before) {
				t.Fatalf("%v became %v", before, l)
			}
			checkGraph(t, g, tableOf(n, l))
		}
	})
}

// wantError goes over all edges and tells the error of the first one at fault.
func wantError(n int, l []api.Edge) (api.Errno, int) {
	if n < 0 {
		return api.ErrArg, 0
	}
	for i, e := range l {
		if e.U < 0 || e.U >= n || e.V < 0 || e.V >= n {
			return api.ErrVertex, i
		}
		if e.W < 0 || e.W > api.MaxW {
			return api.ErrWeight, i
		}
	}
	return api.OK, 0
}

// P16.1, P2: all short lists of edges of which some can't be, of each number of vertices.
func TestErrorsOfShortLists(t *testing.T) {
	of := lists.Edges(0, 0, 1, 0, 1, api.MaxW, 1, 2, 1, 2, 0, -1, 0, 1, api.MaxW+1, -1, 1, 3, 0, -1, -1, 0, 0, -1)
	lists.Each(3, of, func(l []api.Edge) {
		for n := -2; n < 4; n++ {
			why, at := wantError(n, l)
			if why != api.OK {
				checkNone(t, n, l, why, at)
				continue
			}
			checkGraph(t, made(t, n, l), tableOf(n, l))
		}
	})
}

// P16.1: vertices and weights at all the ends.
func TestEndsOfEdges(t *testing.T) {
	for _, n := range []int{1, 2, 7, api.MaxN} {
		for _, v := range []int{math.MinInt, -1 << 32, -n, -1, n, n + 1, 1 << 32, math.MaxInt} {
			checkNone(t, n, []api.Edge{{}, {U: v}}, api.ErrVertex, 1)
			checkNone(t, n, []api.Edge{{}, {V: v}}, api.ErrVertex, 1)
			checkNone(t, n, []api.Edge{{}, {V: v, W: -1}}, api.ErrVertex, 1)
		}
		for _, w := range []int64{math.MinInt64, math.MinInt64 + 1, -1 << 32, -1, api.MaxW + 1, 1 << 32, 1<<32 + 1, math.MaxInt64} {
			checkNone(t, n, []api.Edge{{}, {}, {V: n - 1, W: w}}, api.ErrWeight, 2)
		}
		for _, w := range []int64{0, 1, api.MaxW - 1, api.MaxW} {
			g := made(t, n, []api.Edge{{V: n - 1, W: w}})
			if n == 1 {
				w = 0
			}
			if g.Weight(n-1, 0) != w || g.Total() != w {
				t.Errorf("%d vertices, %d: %d, %d", n, w, g.Weight(n-1, 0), g.Total())
			}
		}
	}
}

// P16.1, P2: numbers of vertices and of edges that can't be, ahead of all that is wrong with the edges.
func TestLimits(t *testing.T) {
	most, over := make([]api.Edge, api.MaxM), make([]api.Edge, api.MaxM+1)
	wrong := slices.Clone(over)
	wrong[0], wrong[7] = api.Edge{U: -1}, api.Edge{W: -1}
	for _, n := range []int{math.MinInt, math.MinInt + 1, -1 << 32, -api.MaxN, -2, -1} {
		for _, l := range [][]api.Edge{nil, {}, {{}}, wrong[:9], most, over, wrong} {
			checkNone(t, n, l, api.ErrArg, 0)
		}
	}
	for _, n := range []int{api.MaxN + 1, api.MaxN + 2, 1 << 32, 1<<32 + 1, math.MaxInt - 1, math.MaxInt} {
		for _, l := range [][]api.Edge{nil, {}, {{}}, wrong[:9], most, over, wrong} {
			checkNone(t, n, l, api.ErrLong, 0)
		}
	}
	for _, n := range []int{0, 1, 2, api.MaxN - 1, api.MaxN} {
		checkNone(t, n, over, api.ErrLong, 0)
		checkNone(t, n, wrong, api.ErrLong, 0)
		if g := made(t, n, nil); g.N() != n || g.M() != 0 {
			t.Errorf("%d vertices alone: %d, %d", n, g.N(), g.M())
		}
	}
	checkNone(t, 0, most, api.ErrVertex, 0)
	checkNone(t, 4, wrong[:api.MaxM], api.ErrVertex, 0)
	checkNone(t, 4, wrong[1:], api.ErrWeight, 6)
	if g := made(t, 1, most); g.N() != 1 || g.M() != 0 {
		t.Errorf("%d vertices, %d edges", g.N(), g.M())
	}
}

// P16.1: an error at each place of a long list.
func TestErrorsOfLongLists(t *testing.T) {
	const n = 1000
	l := make([]api.Edge, n)
	for i := range l {
		l[i] = api.Edge{U: i, V: n - 1 - i, W: int64(i)}
	}
	l[n-1].W = api.MaxW + 1
	checkNone(t, n, l, api.ErrWeight, n-1)
	for i := n - 2; i >= 0; i-- {
		was := l[i]
		l[i].W = -1
		checkNone(t, n, l, api.ErrWeight, i)
		l[i].V = n
		checkNone(t, n, l, api.ErrVertex, i)
		l[i] = was
	}
}

// P16.1 to P16.3: graphs of few and of many edges, held against their tables; the edges may stand in any order and either way round.
func TestManyEdges(t *testing.T) {
	for _, c := range []struct{ n, m int }{{1, 9}, {2, 50}, {5, 3}, {7, 200}, {30, 40}, {64, 64}, {65, 4000}, {200, 150}, {150, 20000}} {
		for seed := range uint64(4) {
			l := scatter.Edges(seed, c.n, c.m)
			want := tableOf(c.n, l)
			g, h := made(t, c.n, l), made(t, c.n, turned(l))
			checkGraph(t, g, want)
			checkGraph(t, h, want)
			told, ok := edge.Split(g.Edges())
			if !ok || !Same(g, h) || !Same(g, made(t, c.n, told)) {
				t.Errorf("%v: not the same", c)
			}
		}
	}
}

// P16.1 to P16.3: as many vertices as there may be.
func TestMostVertices(t *testing.T) {
	l := scatter.Edges(5, api.MaxN, 1<<16)
	checkGraph(t, made(t, api.MaxN, l), tableOf(api.MaxN, l))
}

// P16.1 to P16.3: as many edges as there may be, all of different pairs, each as heavy as may be.
func TestMostEdges(t *testing.T) {
	n, l := lists.Most()
	for i := range l {
		l[i].W = api.MaxW
	}
	g := made(t, n, l)
	if g.M() != api.MaxM || g.Total() != 1<<51 {
		t.Fatalf("%d edges of %d", g.M(), g.Total())
	}
	checkGraph(t, g, tableOf(n, l))
}

// P16.1 to P16.3: as many edges as there may be, all of one pair, and all between one vertex and others.
func TestHeaviest(t *testing.T) {
	l := make([]api.Edge, api.MaxM)
	for i := range l {
		l[i] = api.Edge{U: 3, V: 1, W: api.MaxW}
	}
	g := made(t, 4, l)
	if !slices.Equal(g.Edges(), lists.Edges(1, 3, 1<<51)) || g.Weight(1, 3) != 1<<51 || g.Weight(3, 1) != 1<<51 || g.Total() != 1<<51 {
		t.Errorf("of one pair: %v", g.Edges())
	}
	checkGraph(t, g, tableOf(4, l))
	// What it tells is above what an edge may weigh that a graph is made of.
	checkNone(t, 4, g.Edges(), api.ErrWeight, 0)
	for i := range l {
		l[i] = api.Edge{U: i & 1023, V: 2000, W: api.MaxW}
	}
	g = made(t, 2001, l)
	if g.M() != 1024 || g.Degree(2000) != 1<<51 || g.Degree(0) != 1<<41 || len(g.Near(2000)) != 1024 || g.Weight(2000, 7) != 1<<41 {
		t.Errorf("of one vertex: %d edges", g.M())
	}
}

// P16.2: a nil graph has no vertices, and tells nothing.
func TestNil(t *testing.T) {
	var g *Net
	checkGraph(t, g, nil)
	for v := -2; v < 3; v++ {
		if e, ok := g.Edge(v); (e != api.Edge{}) || ok {
			t.Errorf("Edge(%d) is %v, %v", v, e, ok)
		}
	}
	none := made(t, 0, nil)
	if !Same(nil, nil) || !Same(g, nil) || Same(g, none) || Same(none, g) || !Same(none, made(t, 0, []api.Edge{})) {
		t.Error("Same")
	}
	checkGraph(t, none, nil)
}

// P16.2: graphs are the same where they have as many vertices and all pairs weigh the same, however the edges were told.
func TestSame(t *testing.T) {
	var graphs []*Net
	var tables []table
	lists.Each(2, lists.Edges(0, 1, 1, 1, 0, 1, 0, 1, 2, 0, 0, 1, 1, 0, 0, 2, 0, 1, 1, 2, 1), func(l []api.Edge) {
		for n := 3; n < 5; n++ {
			graphs = append(graphs, made(t, n, l))
			tables = append(tables, tableOf(n, l))
		}
	})
	for i, g := range graphs {
		if Same(g, nil) || Same(nil, g) {
			t.Fatalf("%v is the same as nil", g.Edges())
		}
		for j, h := range graphs {
			if got, want := Same(g, h), tables[i].same(tables[j]); got != want {
				t.Fatalf("%d vertices, %v and %d, %v: %v", g.N(), g.Edges(), h.N(), h.Edges(), got)
			}
		}
	}
}

// P16.2: of long lists one edge that differs is enough, whichever it is.
func TestSameOfLongLists(t *testing.T) {
	g := made(t, 90, scatter.Edges(8, 90, 600))
	for i := range g.M() {
		l := g.Edges()
		l[i].W++
		if h := made(t, 90, l); Same(g, h) || Same(h, g) {
			t.Fatalf("one more at %d", i)
		}
		if h := made(t, 90, slices.Delete(l, i, i+1)); Same(g, h) || Same(h, g) {
			t.Fatalf("none at %d", i)
		}
	}
}

// P4: the list is not kept, and what lies behind its length is neither read nor written.
func TestListsAreNotKept(t *testing.T) {
	behind := lists.Edges(0, 1, 5, 2, 1, 3, 1, 1, 4, 0, 7, -1, 0, 2, 8)
	want := tableOf(3, behind[:3])
	before := slices.Clone(behind)
	g := made(t, 3, behind[:3])
	if !slices.Equal(behind, before) {
		t.Errorf("%v became %v", before, behind)
	}
	checkGraph(t, g, want)
	for i := range behind {
		behind[i] = api.Edge{U: 9, V: 9, W: 9}
	}
	checkGraph(t, g, want)
	// Edges that are merged already are not kept either.
	merged := lists.Edges(0, 1, 5, 0, 2, 3, 1, 2, 8)
	want = tableOf(3, merged)
	g = made(t, 3, merged)
	clear(merged)
	checkGraph(t, g, want)
}

// P4: what is answered is new memory, up to its capacity.
func TestAnswersAreNewMemory(t *testing.T) {
	l := scatter.Edges(3, 20, 90)
	want := tableOf(20, l)
	g := made(t, 20, l)
	for _, told := range [][]api.Edge{g.Edges(), g.Edges()} {
		clear(told[:cap(told)])
		checkGraph(t, g, want)
	}
	for v := range 20 {
		for _, near := range [][]int{g.Near(v), g.Near(v)} {
			lists.Spoil(near)
		}
		first := append(g.Near(v), 70)
		second := append(g.Near(v), 71)
		if first[len(first)-1] != 70 || second[len(second)-1] != 71 {
			t.Errorf("two lists of %d share memory", v)
		}
	}
	checkGraph(t, g, want)
	a, b := g.Edges(), g.Edges()
	a[0].W++
	if a[0] == b[0] {
		t.Error("two lists share memory")
	}
}

// P4: graphs of one list do not share what they tell of.
func TestGraphsAreTheirOwn(t *testing.T) {
	l := lists.Edges(0, 1, 5, 0, 2, 3)
	g := made(t, 3, l)
	l[1].W = 4
	h := made(t, 4, l)
	checkGraph(t, g, tableOf(3, lists.Edges(0, 1, 5, 0, 2, 3)))
	checkGraph(t, h, tableOf(4, l))
}

// P5: what is told is the same each time, whatever was asked ahead, and of whatever graph.
func TestAgain(t *testing.T) {
	l := scatter.Edges(6, 40, 300)
	g := made(t, 40, l)
	told := g.Edges()
	for range 20 {
		h := made(t, 40, l)
		if !slices.Equal(h.Edges(), told) || !slices.Equal(g.Edges(), told) || !Same(g, h) {
			t.Fatal("another graph")
		}
		for v := range 40 {
			if !slices.Equal(g.Near(v), h.Near(v)) || g.Degree(v) != h.Degree(v) {
				t.Fatalf("another vertex %d", v)
			}
		}
	}
}
