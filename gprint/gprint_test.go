package gprint

import (
	"fmt"
	"math"
	"slices"
	"strings"
	"testing"

	"strait/api"
	"strait/graphs"
	"strait/gread"
	"strait/lists"
	"strait/net"
	"strait/scatter"
)

var (
	inf     = math.Inf(1)
	minInf  = math.Inf(-1)
	minZero = math.Copysign(0, -1)
	noNum   = math.NaN()
)

// pieces are, of each edge, as many of 2^31 as leave something over, and what they leave.
func pieces(l []api.Edge) []api.Edge {
	var all []api.Edge
	for _, e := range l {
		for range (e.W - 1) / 2147483648 {
			all = append(all, api.Edge{U: e.U, V: e.V, W: 2147483648})
		}
		all = append(all, api.Edge{U: e.U, V: e.V, W: (e.W-1)%2147483648 + 1})
	}
	return all
}

// added are the edges of n vertices that those of l come to, of each pair one, in order.
func added(n int, l []api.Edge) []api.Edge {
	table := make([][]int64, n)
	for v := range table {
		table[v] = make([]int64, n)
	}
	for _, e := range l {
		table[min(e.U, e.V)][max(e.U, e.V)] += e.W
	}
	var all []api.Edge
	for u, row := range table {
		for v, w := range row {
			if u != v && w != 0 {
				all = append(all, api.Edge{U: u, V: v, W: w})
			}
		}
	}
	return all
}

// wantText is what the chapters say of the text of n vertices and the edges l, as they stand.
func wantText(n int, l []api.Edge) string {
	var b strings.Builder
	fmt.Fprintf(&b, "graph %d %d\n", n, len(l))
	for _, e := range l {
		fmt.Fprintf(&b, "%d %d %d\n", e.U, e.V, e.W)
	}
	return b.String()
}

// wantDot is what the chapter says of Dot, of n vertices and merged edges.
func wantDot(n int, l []api.Edge) string {
	inEdge := make([]bool, n)
	for _, e := range l {
		inEdge[e.U], inEdge[e.V] = true, true
	}
	var b strings.Builder
	b.WriteString("graph {\n")
	for v, in := range inEdge {
		if !in {
			fmt.Fprintf(&b, "%d;\n", v)
		}
	}
	for _, e := range l {
		fmt.Fprintf(&b, "%d -- %d [%d];\n", e.U, e.V, e.W)
	}
	return b.String() + "}\n"
}

// wantRows is what the chapter says of Rows, of n vertices and merged edges.
func wantRows(n int, l []api.Edge) string {
	weights := map[[2]int]int64{}
	for _, e := range l {
		weights[[2]int{e.U, e.V}], weights[[2]int{e.V, e.U}] = e.W, e.W
	}
	var b strings.Builder
	for v := range n {
		for u := range n {
			if u > 0 {
				b.WriteByte(' ')
			}
			fmt.Fprint(&b, weights[[2]int{v, u}])
		}
		b.WriteByte('\n')
	}
	return b.String()
}

// wantWeight is what layer 4 says of a float that is to be a weight.
func wantWeight(x float64) api.Errno {
	switch {
	case math.IsNaN(x):
		return api.ErrNaN
	case math.IsInf(x, 0):
		return api.ErrInf
	case x != math.Trunc(x):
		return api.ErrFrac
	case x < -9223372036854775808 || x >= 9223372036854775808:
		return api.ErrRange
	case x < 0 || x > 2147483648:
		return api.ErrWeight
	}
	return api.OK
}

// wantFloats is what the chapter says of Floats.
func wantFloats(n int, l []api.Edge, w []float64) (string, api.Errno, int) {
	if len(w) != len(l) {
		return "", api.ErrArg, 0
	}
	all := make([]api.Edge, len(l))
	for i, x := range w {
		if why := wantWeight(x); why != api.OK {
			return "", why, i
		}
		all[i] = api.Edge{U: l[i].U, V: l[i].V, W: int64(x)}
	}
	if n < 0 {
		return "", api.ErrArg, 0
	}
	if n > 4096 || len(l) > 1048576 {
		return "", api.ErrLong, 0
	}
	for i, e := range l {
		if e.U < 0 || e.V < 0 || e.U >= n || e.V >= n {
			return "", api.ErrVertex, i
		}
	}
	return wantText(n, all), api.OK, 0
}

// short is s, or its beginning where it is long.
func short(s string) string {
	if len(s) > 200 {
		return s[:200] + ".."
	}
	return s
}

// checkText holds a text against another one, and tells where they part.
func checkText(t *testing.T, what, got, want string) {
	t.Helper()
	if got == want {
		return
	}
	at := 0
	for at < min(len(got), len(want)) && got[at] == want[at] {
		at++
	}
	t.Fatalf("%s of %d bytes, not %d, is from byte %d on %q, not %q", what, len(got), len(want), at, short(got[at:]), short(want[at:]))
}

// checkGraph holds all that is told of g against n vertices and these merged edges.
func checkGraph(t *testing.T, g *net.Net, n int, merged []api.Edge) {
	t.Helper()
	checkText(t, "Print", Print(g), wantText(n, pieces(merged)))
	checkText(t, "Dot", Dot(g), wantDot(n, merged))
	checkText(t, "Rows", Rows(g), wantRows(n, merged))
	checkReadAgain(t, g)
	if g.N() != n || !slices.Equal(g.Edges(), merged) {
		t.Fatalf("the graph of %d vertices and %d edges is another one now", n, len(merged))
	}
}

// checkReadAgain holds the graph of g's text against g, and that one's text against g's.
func checkReadAgain(t *testing.T, g *net.Net) {
	t.Helper()
	s := Print(g)
	h, why, line := gread.Read(s)
	if why != api.OK || line != 0 || !net.Same(g, h) {
		t.Fatalf("%q is not read as the graph: %d, %d", short(s), why, line)
	}
	checkText(t, "Print of what was read", Print(h), s)
}

// checkFloats holds what Floats tells against the chapter's words, and tells its error.
func checkFloats(t *testing.T, n int, l []api.Edge, w []float64) api.Errno {
	t.Helper()
	s, why, at := Floats(n, l, w)
	wantS, wantWhy, wantAt := wantFloats(n, l, w)
	if why != wantWhy || at != wantAt {
		t.Fatalf("Floats(%d, %d edges, %d floats) is %d, %d, not %d, %d", n, len(l), len(w), why, at, wantWhy, wantAt)
	}
	checkText(t, "Floats", s, wantS)
	return why
}

// checkNoFloats holds what Floats tells against an error and its place.
func checkNoFloats(t *testing.T, n int, l []api.Edge, w []float64, why api.Errno, at int) {
	t.Helper()
	if s, gotWhy, gotAt := Floats(n, l, w); s != "" || gotWhy != why || gotAt != at {
		t.Fatalf("Floats(%d, %d edges, %d floats) is %q, %d, %d, not empty, %d, %d", n, len(l), len(w), short(s), gotWhy, gotAt, why, at)
	}
}

// weightsOf are m floats that are weights, as the seed says, with some -0.
func weightsOf(seed uint64, m int) []float64 {
	w := make([]float64, m)
	for i, e := range scatter.Edges(seed, 1, m) {
		w[i] = float64(e.W)
		if w[i] == 0 && i%2 == 0 {
			w[i] = minZero
		}
	}
	return w
}

// P18.1: the chapter's example, and the document's of two edges of 2^31.
func TestExamples(t *testing.T) {
	checkText(t, "Print", Print(graphs.Of(t, 2, lists.Edges(0, 1, 5))), "graph 2 1\n0 1 5\n")
	checkText(t, "Print", Print(graphs.Of(t, 2, lists.Edges(0, 1, 2147483648, 0, 1, 2147483648))), "graph 2 2\n0 1 2147483648\n0 1 2147483648\n")
}

// P18.1, P18.2: texts that are written down.
func TestTexts(t *testing.T) {
	for _, c := range []struct {
		n                int
		l                []api.Edge
		print, dot, rows string
	}{
		{0, nil, "graph 0 0\n", "graph {\n}\n", ""},
		{1, nil, "graph 1 0\n", "graph {\n0;\n}\n", "0\n"},
		{1, lists.Edges(0, 0, 7), "graph 1 0\n", "graph {\n0;\n}\n", "0\n"},
		{2, nil, "graph 2 0\n", "graph {\n0;\n1;\n}\n", "0 0\n0 0\n"},
		{2, lists.Edges(0, 1, 0), "graph 2 0\n", "graph {\n0;\n1;\n}\n", "0 0\n0 0\n"},
		{2, lists.Edges(1, 1, 9, 1, 0, 0), "graph 2 0\n", "graph {\n0;\n1;\n}\n", "0 0\n0 0\n"},
		{2, lists.Edges(0, 1, 5), "graph 2 1\n0 1 5\n", "graph {\n0 -- 1 [5];\n}\n", "0 5\n5 0\n"},
		{2, lists.Edges(1, 0, 5), "graph 2 1\n0 1 5\n", "graph {\n0 -- 1 [5];\n}\n", "0 5\n5 0\n"},
		{2, lists.Edges(1, 0, 2, 0, 1, 3), "graph 2 1\n0 1 5\n", "graph {\n0 -- 1 [5];\n}\n", "0 5\n5 0\n"},
		{3, lists.Edges(0, 2, 1), "graph 3 1\n0 2 1\n", "graph {\n1;\n0 -- 2 [1];\n}\n", "0 0 1\n0 0 0\n1 0 0\n"},
		{3, lists.Edges(2, 1, 4, 1, 0, 3), "graph 3 2\n0 1 3\n1 2 4\n", "graph {\n0 -- 1 [3];\n1 -- 2 [4];\n}\n", "0 3 0\n3 0 4\n0 4 0\n"},
		{3, lists.Edges(2, 1, 4, 2, 0, 30, 1, 0, 200), "graph 3 3\n0 1 200\n0 2 30\n1 2 4\n", "graph {\n0 -- 1 [200];\n0 -- 2 [30];\n1 -- 2 [4];\n}\n", "0 200 30\n200 0 4\n30 4 0\n"},
		{5, lists.Edges(3, 1, 8, 2, 2, 6), "graph 5 1\n1 3 8\n", "graph {\n0;\n2;\n4;\n1 -- 3 [8];\n}\n", "0 0 0 0 0\n0 0 0 8 0\n0 0 0 0 0\n0 8 0 0 0\n0 0 0 0 0\n"},
		{2, lists.Edges(0, 1, 2147483648), "graph 2 1\n0 1 2147483648\n", "graph {\n0 -- 1 [2147483648];\n}\n", "0 2147483648\n2147483648 0\n"},
		{2, lists.Edges(0, 1, 2147483648, 0, 1, 1), "graph 2 2\n0 1 2147483648\n0 1 1\n", "graph {\n0 -- 1 [2147483649];\n}\n", "0 2147483649\n2147483649 0\n"},
		{3, lists.Edges(2, 1, 2147483647, 1, 2, 2147483647, 0, 1, 7), "graph 3 3\n0 1 7\n1 2 2147483648\n1 2 2147483646\n", "graph {\n0 -- 1 [7];\n1 -- 2 [4294967294];\n}\n", "0 7 0\n7 0 4294967294\n0 4294967294 0\n"},
	} {
		g := graphs.Of(t, c.n, c.l)
		checkText(t, "Print", Print(g), c.print)
		checkText(t, "Dot", Dot(g), c.dot)
		checkText(t, "Rows", Rows(g), c.rows)
		checkGraph(t, g, c.n, added(c.n, c.l))
	}
}

// P18.1, P18.2: of nil all texts are empty.
func TestNil(t *testing.T) {
	checkText(t, "Print", Print(nil), "")
	checkText(t, "Dot", Dot(nil), "")
	checkText(t, "Rows", Rows(nil), "")
	checkReadAgain(t, graphs.Of(t, 0, nil))
}

// P18.1, P18.2, P18.4: all graphs of up to four vertices whose edges weigh something of a few kinds.
func TestSmallGraphs(t *testing.T) {
	weights := []int64{0, 1, 10, 2147483648, 2147483649}
	count := 0
	for n := range 5 {
		pairs := n * (n - 1) / 2
		lists.Each(pairs, weights, func(l []int64) {
			if len(l) < pairs {
				return
			}
			var merged []api.Edge
			i := 0
			for u := range n {
				for v := u + 1; v < n; v++ {
					if l[i] > 0 {
						merged = append(merged, api.Edge{U: u, V: v, W: l[i]})
					}
					i++
				}
			}
			checkGraph(t, graphs.Of(t, n, pieces(merged)), n, merged)
			count++
		})
	}
	if count != 1+1+5+125+15625 {
		t.Errorf("%d graphs", count)
	}
}

// P18.1, P18.2, P18.4: graphs of few and of many edges, of all kinds.
func TestManyEdges(t *testing.T) {
	for _, c := range []struct{ n, m int }{{1, 9}, {2, 50}, {3, 1}, {5, 3}, {7, 200}, {12, 6}, {30, 40}, {65, 4000}, {200, 150}, {150, 20000}, {1001, 3000}} {
		for seed := range uint64(3) {
			l := scatter.Edges(seed, c.n, c.m)
			checkGraph(t, graphs.Of(t, c.n, l), c.n, added(c.n, l))
		}
	}
}

// P18.1, P18.4: in whatever order edges came, and either way round, their graph's text is the same.
func TestOrderOfEdges(t *testing.T) {
	l := scatter.Edges(9, 30, 300)
	s := Print(graphs.Of(t, 30, l))
	for i := range l {
		l[i].U, l[i].V = l[i].V, l[i].U
		j := scatter.Below(uint64(i), 1, len(l))[0]
		l[i], l[j] = l[j], l[i]
		checkText(t, "Print", Print(graphs.Of(t, 30, l)), s)
	}
}

// P18.1, P18.2, P18.4: edges that weigh about as much as some lines may say, among others.
func TestHeavyEdges(t *testing.T) {
	const most = 2147483648
	for k := range int64(6) {
		for off := int64(-2); off <= 2; off++ {
			w := k*most + off
			if w <= 0 {
				continue
			}
			merged := lists.Edges(0, 1, w)
			checkGraph(t, graphs.Of(t, 2, pieces(merged)), 2, merged)
			merged = lists.Edges(0, 3, 5, 1, 2, w, 1, 4, most, 2, 3, w+1, 2, 4, 1)
			checkGraph(t, graphs.Of(t, 6, pieces(merged)), 6, merged)
		}
	}
}

// P18.1, P18.2: the heaviest edge that there can be takes as many lines as a text may have.
func TestHeaviestEdge(t *testing.T) {
	const m = api.MaxM
	g := graphs.Of(t, 2, slices.Repeat(lists.Edges(1, 0, api.MaxW), m))
	checkText(t, "Print", Print(g), "graph 2 1048576\n"+strings.Repeat("0 1 2147483648\n", m))
	checkText(t, "Dot", Dot(g), "graph {\n0 -- 1 [2251799813685248];\n}\n")
	checkText(t, "Rows", Rows(g), "0 2251799813685248\n2251799813685248 0\n")
	checkReadAgain(t, g)
	g = graphs.Of(t, 3, append(slices.Repeat(lists.Edges(2, 0, api.MaxW), m-2), lists.Edges(1, 0, api.MaxW, 0, 2, 3)...))
	checkText(t, "Print", Print(g), "graph 3 1048576\n0 1 2147483648\n"+strings.Repeat("0 2 2147483648\n", m-2)+"0 2 3\n")
	checkReadAgain(t, g)
}

// P18.1, P18.2, P18.4: all numbers of vertices, without edges; a line of none tells just how many there are.
func TestNoEdges(t *testing.T) {
	lone := ""
	for n := range 4097 {
		g := graphs.Of(t, n, nil)
		checkText(t, "Print", Print(g), fmt.Sprintf("graph %d 0\n", n))
		checkText(t, "Dot", Dot(g), "graph {\n"+lone+"}\n")
		if n < 70 || n == 4096 {
			checkText(t, "Rows", Rows(g), strings.Repeat(strings.TrimPrefix(strings.Repeat(" 0", n), " ")+"\n", n))
		}
		checkReadAgain(t, g)
		lone += fmt.Sprintf("%d;\n", n)
	}
}

// P18.1, P18.2, P18.4: as many vertices as there may be, the first and the last ones in edges.
func TestMostVertices(t *testing.T) {
	merged := lists.Edges(0, 1, 7, 0, 4095, 2147483649, 2000, 2001, 1, 4094, 4095, 12)
	g := graphs.Of(t, 4096, pieces(merged))
	checkText(t, "Print", Print(g), "graph 4096 5\n0 1 7\n0 4095 2147483648\n0 4095 1\n2000 2001 1\n4094 4095 12\n")
	checkText(t, "Dot", Dot(g), wantDot(4096, merged))
	checkText(t, "Rows", Rows(g), wantRows(4096, merged))
	checkReadAgain(t, g)
}

// P18.1, P18.2, P18.4: as many unlike edges as there may be.
func TestMostEdges(t *testing.T) {
	const n = 1449 // n (n - 1) / 2 is just above 2^20
	var merged []api.Edge
	for u := range n {
		for v := u + 1; v < n && len(merged) < api.MaxM; v++ {
			merged = append(merged, api.Edge{U: u, V: v, W: int64(1 + (u+7*v)%3000)})
		}
	}
	checkGraph(t, graphs.Of(t, n, merged), n, merged)
}

// P18.1: a graph whose text is longer than a text that is read may be has that text all the same.
func TestLongestText(t *testing.T) {
	var merged []api.Edge
	for v := 4095; len(merged) < api.MaxM; v-- {
		for u := 1000; u < v && len(merged) < api.MaxM; u++ {
			merged = append(merged, api.Edge{U: u, V: v, W: api.MaxW})
		}
	}
	g := graphs.Of(t, 4096, merged)
	s := Print(g)
	checkText(t, "Print", s, wantText(4096, g.Edges()))
	if len(s) != len("graph 4096 1048576\n")+api.MaxM*len("1000 1001 2147483648\n") {
		t.Errorf("%d bytes", len(s))
	}
	if h, why, line := gread.Read(s); h != nil || why != api.ErrLong || line != 0 {
		t.Errorf("%d, %d", why, line)
	}
}

// P18.3: texts and errors that are written down.
func TestFloats(t *testing.T) {
	for _, c := range []struct {
		n    int
		l    []api.Edge
		w    []float64
		want string
		why  api.Errno
		at   int
	}{
		{0, nil, nil, "graph 0 0\n", api.OK, 0},
		{0, []api.Edge{}, []float64{}, "graph 0 0\n", api.OK, 0},
		{4096, nil, nil, "graph 4096 0\n", api.OK, 0},
		{2, lists.Edges(0, 1, 0), []float64{5}, "graph 2 1\n0 1 5\n", api.OK, 0},
		{2, lists.Edges(0, 1, 77), []float64{5}, "graph 2 1\n0 1 5\n", api.OK, 0},
		{2, lists.Edges(1, 0, -77), []float64{5}, "graph 2 1\n1 0 5\n", api.OK, 0},
		{2, lists.Edges(0, 1, 1<<40), []float64{2147483648}, "graph 2 1\n0 1 2147483648\n", api.OK, 0},
		{2, lists.Edges(0, 1, 5), []float64{0}, "graph 2 1\n0 1 0\n", api.OK, 0},
		{2, lists.Edges(0, 1, 5), []float64{minZero}, "graph 2 1\n0 1 0\n", api.OK, 0},
		{1, lists.Edges(0, 0, 5), []float64{1e3}, "graph 1 1\n0 0 1000\n", api.OK, 0},
		{3, lists.Edges(2, 1, 1, 1, 2, 1, 2, 2, 1, 1, 0, 1), []float64{4, 3, 2, 1}, "graph 3 4\n2 1 4\n1 2 3\n2 2 2\n1 0 1\n", api.OK, 0},
		{4096, lists.Edges(4095, 0, 0), []float64{6}, "graph 4096 1\n4095 0 6\n", api.OK, 0},
		// Of another length.
		{2, nil, []float64{5}, "", api.ErrArg, 0},
		{2, lists.Edges(0, 1, 5), nil, "", api.ErrArg, 0},
		{2, lists.Edges(0, 1, 5), []float64{5, 5}, "", api.ErrArg, 0},
		{2, lists.Edges(0, 1, 5, 0, 1, 5), []float64{5}, "", api.ErrArg, 0},
		{2, lists.Edges(0, 1, 5), []float64{5, noNum}, "", api.ErrArg, 0},
		{9999, lists.Edges(0, 1, 5), []float64{noNum, 5}, "", api.ErrArg, 0},
		// Floats that are no weights.
		{2, lists.Edges(0, 1, 5), []float64{noNum}, "", api.ErrNaN, 0},
		{2, lists.Edges(0, 1, 5), []float64{inf}, "", api.ErrInf, 0},
		{2, lists.Edges(0, 1, 5), []float64{minInf}, "", api.ErrInf, 0},
		{2, lists.Edges(0, 1, 5), []float64{0.5}, "", api.ErrFrac, 0},
		{2, lists.Edges(0, 1, 5), []float64{-0.5}, "", api.ErrFrac, 0},
		{2, lists.Edges(0, 1, 5), []float64{5e-324}, "", api.ErrFrac, 0},
		{2, lists.Edges(0, 1, 5), []float64{2147483648.5}, "", api.ErrFrac, 0},
		{2, lists.Edges(0, 1, 5), []float64{1 << 63}, "", api.ErrRange, 0},
		{2, lists.Edges(0, 1, 5), []float64{-1e300}, "", api.ErrRange, 0},
		{2, lists.Edges(0, 1, 5), []float64{2147483649}, "", api.ErrWeight, 0},
		{2, lists.Edges(0, 1, 5), []float64{4294967296}, "", api.ErrWeight, 0},
		{2, lists.Edges(0, 1, 5), []float64{-1}, "", api.ErrWeight, 0},
		{2, lists.Edges(0, 1, 5), []float64{-1 << 63}, "", api.ErrWeight, 0},
		{2, lists.Edges(0, 1, 5, 0, 1, 5, 0, 1, 5), []float64{1, -1, noNum}, "", api.ErrWeight, 1},
		{2, lists.Edges(0, 1, 5, 0, 1, 5, 0, 1, 5), []float64{1, 2, inf}, "", api.ErrInf, 2},
		{-1, lists.Edges(0, 1, 5), []float64{0.5}, "", api.ErrFrac, 0},
		{4097, lists.Edges(9, 9, 5, 9, 9, 5), []float64{1, noNum}, "", api.ErrNaN, 1},
		{1, lists.Edges(9, 9, 5, 9, 9, 5), []float64{1, -1}, "", api.ErrWeight, 1},
		// Vertices that there can't be so many of.
		{-1, nil, nil, "", api.ErrArg, 0},
		{-1, lists.Edges(0, 1, 5), []float64{5}, "", api.ErrArg, 0},
		{math.MinInt, lists.Edges(-1, 0, 5), []float64{5}, "", api.ErrArg, 0},
		{4097, nil, nil, "", api.ErrLong, 0},
		{4097, lists.Edges(0, 1, 5, -1, 9999, 5), []float64{5, 5}, "", api.ErrLong, 0},
		{math.MaxInt, lists.Edges(0, 1, 5), []float64{5}, "", api.ErrLong, 0},
		// Edges of vertices that there are not.
		{0, lists.Edges(0, 0, 5), []float64{5}, "", api.ErrVertex, 0},
		{1, lists.Edges(0, 1, 5), []float64{5}, "", api.ErrVertex, 0},
		{1, lists.Edges(1, 0, 5), []float64{5}, "", api.ErrVertex, 0},
		{2, lists.Edges(0, -1, 5), []float64{5}, "", api.ErrVertex, 0},
		{2, lists.Edges(-1, 0, 5), []float64{5}, "", api.ErrVertex, 0},
		{2, lists.Edges(2, 2, 5), []float64{0}, "", api.ErrVertex, 0},
		{2, lists.Edges(0, 1, 5, 1, 0, 5, 0, 2, 5, 7, 7, 5), []float64{1, 2, 3, 4}, "", api.ErrVertex, 2},
		{4096, lists.Edges(0, 4095, 5, 0, 4096, 5), []float64{1, 2}, "", api.ErrVertex, 1},
		{5, lists.Edges(math.MaxInt64, 0, 5), []float64{1}, "", api.ErrVertex, 0},
		{5, lists.Edges(0, math.MinInt64, 5), []float64{1}, "", api.ErrVertex, 0},
	} {
		s, why, at := Floats(c.n, c.l, c.w)
		if s != c.want || why != c.why || at != c.at {
			t.Errorf("Floats(%d, %v, %v) is %q, %d, %d, not %q, %d, %d", c.n, c.l, c.w, s, why, at, c.want, c.why, c.at)
		}
		checkFloats(t, c.n, c.l, c.w)
	}
}

// P18.3, P2: Floats of all short lists of edges and of floats that may be or not, of all kinds of numbers of vertices.
func TestFloatsOfShortLists(t *testing.T) {
	edges := lists.Edges(0, 0, 3, 0, 1, -1, 1, 0, 1<<40, 2, 1, 0, -1, 0, 1, 0, 4095, 2, 4096, 4096, 2, 1, math.MaxInt64, 4)
	floats := []float64{0, minZero, 1, 2147483648, 2147483649, -1, 0.5, noNum, inf, minInf, 1 << 63, -1 << 63, -1e300}
	var all [][]float64
	lists.Each(2, floats, func(w []float64) { all = append(all, w) })
	counts := map[api.Errno]int{}
	lists.Each(2, edges, func(l []api.Edge) {
		for _, w := range all {
			for _, n := range []int{math.MinInt, -1, 0, 1, 2, 3, 4096, 4097, math.MaxInt} {
				counts[checkFloats(t, n, l, w)]++
			}
		}
	})
	for _, why := range []api.Errno{api.OK, api.ErrArg, api.ErrNaN, api.ErrInf, api.ErrFrac, api.ErrRange, api.ErrWeight, api.ErrLong, api.ErrVertex} {
		if counts[why] < 100 {
			t.Errorf("too few of %d: %d", why, counts[why])
		}
	}
	if len(counts) != 9 {
		t.Errorf("%v", counts)
	}
}

// P18.3, P18.4: the text of many edges as they stand; it is read as the graph of them, with the weights of the floats.
func TestFloatsOfManyEdges(t *testing.T) {
	for _, c := range []struct{ n, m int }{{1, 9}, {2, 50}, {5, 3}, {7, 200}, {65, 4000}, {150, 20000}, {4096, 3000}} {
		for seed := range uint64(3) {
			l, w := scatter.Edges(seed, c.n, c.m), weightsOf(seed+50, c.m)
			if why := checkFloats(t, c.n, l, w); why != api.OK {
				t.Fatalf("%v: %d", c, why)
			}
			for i := range l {
				l[i].W = int64(w[i])
			}
			s, _, _ := Floats(c.n, l, w)
			g, why, line := gread.Read(s)
			if why != api.OK || line != 0 || !net.Same(g, graphs.Of(t, c.n, l)) {
				t.Fatalf("%v: %d, %d", c, why, line)
			}
		}
	}
}

// P18.3: all weights that there may be, by halves, and their neighbours, beside whatever W.
func TestFloatsOfEachWeight(t *testing.T) {
	for k := range 32 {
		for _, off := range []float64{-1, -0.5, 0, 0.5, 1} {
			checkFloats(t, 2, lists.Edges(0, 1, math.MinInt64), []float64{float64(int64(1)<<k) + off})
		}
	}
	for w := range int64(3000) {
		checkText(t, "Floats", first(Floats(2, lists.Edges(1, 0, -w), []float64{float64(w)})), fmt.Sprintf("graph 2 1\n1 0 %d\n", w))
	}
}

// first is the text of what Floats tells.
func first(s string, _ api.Errno, _ int) string {
	return s
}

// P18.3, P2: a float that is no weight, or an edge of no vertex, at each place of long lists, with others behind it.
func TestFloatsAtEachPlace(t *testing.T) {
	const n, m = 50, 300
	l, w := scatter.Edges(3, n, m), weightsOf(4, m)
	wrong := []struct {
		x   float64
		why api.Errno
	}{{noNum, api.ErrNaN}, {minInf, api.ErrInf}, {0.25, api.ErrFrac}, {1e19, api.ErrRange}, {-2, api.ErrWeight}}
	ends := []api.Edge{{U: -1}, {V: -1}, {U: n}, {V: n}, {U: n, V: n}}
	bad := slices.Clone(w)
	for i := m - 1; i >= 0; i-- {
		// What is behind this place can't be either: it was made so one turn ahead.
		for k := range wrong {
			bad[i] = wrong[(i+k)%len(wrong)].x
			checkNoFloats(t, n, l, bad, wrong[(i+k)%len(wrong)].why, i)
			checkNoFloats(t, -1, l, bad, wrong[(i+k)%len(wrong)].why, i)
		}
		for _, e := range ends {
			l[i] = e
			checkNoFloats(t, n, l, w, api.ErrVertex, i)
			checkNoFloats(t, n, l, bad, wrong[(i+len(wrong)-1)%len(wrong)].why, i)
		}
	}
	checkNoFloats(t, -1, l, w, api.ErrArg, 0)
	checkNoFloats(t, 4097, l, w, api.ErrLong, 0)
	checkNoFloats(t, -1, l, bad[:m-1], api.ErrArg, 0)
}

// P18.3: as many edges as there may be, and one more, which is looked at behind their floats and ahead of their vertices.
func TestFloatsOfMostEdges(t *testing.T) {
	const m = api.MaxM
	l, w := slices.Repeat(lists.Edges(1, 0, -8), m+1), slices.Repeat([]float64{30}, m+1)
	s, why, at := Floats(2, l[:m], w[:m])
	if why != api.OK || at != 0 {
		t.Errorf("%d, %d", why, at)
	}
	checkText(t, "Floats", s, "graph 2 1048576\n"+strings.Repeat("1 0 30\n", m))
	checkNoFloats(t, 2, l, w, api.ErrLong, 0)
	checkNoFloats(t, 2, l, w[:m], api.ErrArg, 0)
	checkNoFloats(t, -1, l, w, api.ErrArg, 0)
	checkNoFloats(t, 0, l, w, api.ErrLong, 0)
	l[m-1].V = 2
	checkNoFloats(t, 2, l[:m], w[:m], api.ErrVertex, m-1)
	checkNoFloats(t, 2, l, w, api.ErrLong, 0)
	w[m] = 0.5
	checkNoFloats(t, 2, l, w, api.ErrFrac, m)
	checkNoFloats(t, -1, l, w, api.ErrFrac, m)
}

// P18.3, P4: the lists are left as they were, and what lies behind them is neither read nor written.
func TestListsAreLeftAlone(t *testing.T) {
	l := lists.Edges(2, 0, 7, 1, 1, -3, 9, 9, 9, -1, 4, 4)
	w := []float64{4, minZero, 0.5, 6}
	keptL, keptW := slices.Clone(l), slices.Clone(w)
	for range 2 {
		checkText(t, "Floats", first(Floats(3, l[:2], w[:2])), "graph 3 2\n2 0 4\n1 1 0\n")
		checkNoFloats(t, 3, l[:3], w[:3], api.ErrFrac, 2)
		checkNoFloats(t, 3, l[:3], slices.Repeat([]float64{1}, 3), api.ErrVertex, 2)
		checkNoFloats(t, 3, l[:2], w[:3], api.ErrArg, 0)
		checkText(t, "Floats", first(Floats(3, l[:0], w[:0])), "graph 3 0\n")
	}
	if !slices.Equal(l, keptL) || !slices.Equal(w, keptW) || !math.Signbit(w[1]) {
		t.Errorf("the lists are %v and %v now", l, w)
	}
}

// P5: a text hangs on the graph alone, not on what was told ahead, nor on which of two that are the same it is.
func TestTextsAgain(t *testing.T) {
	l := scatter.Edges(5, 40, 200)
	g, h := graphs.Of(t, 40, l), graphs.Of(t, 40, added(40, l)[:3])
	texts := []string{Print(g), Dot(g), Rows(g)}
	for range 3 {
		checkNoFloats(t, 40, l, nil, api.ErrArg, 0)
		Print(h)
		Dot(nil)
		Rows(h)
		for _, same := range []*net.Net{g, graphs.Of(t, 40, l), graphs.Of(t, 40, pieces(g.Edges()))} {
			checkText(t, "Print", Print(same), texts[0])
			checkText(t, "Dot", Dot(same), texts[1])
			checkText(t, "Rows", Rows(same), texts[2])
		}
	}
}
