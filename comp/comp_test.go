package comp

import (
	"math"
	"slices"
	"testing"

	"strait/api"
	"strait/edge"
	"strait/graphs"
	"strait/lists"
	"strait/net"
	"strait/scatter"
)

// Numbers that are no vertices of any graph.
var beyond = []int{math.MinInt, math.MinInt + 1, math.MinInt32, -1 << 32, -1<<32 + 1, -api.MaxN, -2, -1, api.MaxN, api.MaxN + 1, 1 << 31, 1 << 32, 1<<32 + 1, math.MaxInt - 1, math.MaxInt}

// wantNames are of each of n vertices the least one that it hangs together with: the lower name goes along each edge, over and over, until no name changes.
func wantNames(n int, l []api.Edge) []int {
	names := make([]int, n)
	for v := range names {
		names[v] = v
	}
	for again := true; again; {
		again = false
		for _, e := range l {
			low := min(names[e.U], names[e.V])
			again = again || names[e.U] != names[e.V]
			names[e.U], names[e.V] = low, low
		}
	}
	return names
}

// wantClasses are the vertices of each name.
func wantClasses(names []int) [][]int {
	var all [][]int
	for name := range names {
		var class []int
		for v, other := range names {
			if other == name {
				class = append(class, v)
			}
		}
		if class != nil {
			all = append(all, class)
		}
	}
	return all
}

// wantBridges are the edges whose ends have two names without them, by taking away one after the other.
func wantBridges(n int, l []api.Edge) []int {
	var bridges []int
	for i, e := range l {
		names := wantNames(n, without(l, i))
		if names[e.U] != names[e.V] {
			bridges = append(bridges, i)
		}
	}
	return bridges
}

// without are all edges but that of number i.
func without(l []api.Edge, i int) []api.Edge {
	return slices.Delete(slices.Clone(l), i, i+1)
}

// atLeast are the edges that weigh at least so much.
func atLeast(l []api.Edge, least int64) []api.Edge {
	return slices.DeleteFunc(slices.Clone(l), func(e api.Edge) bool { return e.W < least })
}

// same tells whether both are the same classes.
func same(a, b [][]int) bool {
	return slices.EqualFunc(a, b, slices.Equal[[]int])
}

// checkClasses holds all that is told of g's classes against these names.
func checkClasses(t *testing.T, g *net.Net, names []int) {
	t.Helper()
	classes := wantClasses(names)
	if got := Of(g); !same(got, classes) {
		t.Fatalf("Of %v is %v, not %v", g.Edges(), got, classes)
	}
	if got := Count(g); got != len(classes) {
		t.Fatalf("Count of %v is %d, not %d", g.Edges(), got, len(classes))
	}
	if got := Name(g); !slices.Equal(got, names) {
		t.Fatalf("Name of %v is %v, not %v", g.Edges(), got, names)
	}
	for _, class := range classes {
		for _, v := range class {
			if got := Reach(g, v); !slices.Equal(got, class) {
				t.Fatalf("Reach(%v, %d) is %v, not %v", g.Edges(), v, got, class)
			}
		}
	}
	checkBeyond(t, g)
}

// checkBeyond asks for what hangs together with vertices that there are not.
func checkBeyond(t *testing.T, g *net.Net) {
	t.Helper()
	n := g.N()
	for _, v := range slices.Concat(beyond, []int{n, n + 1, n + 64, -n - 1, n + 1<<32}) {
		if got := Reach(g, v); len(got) != 0 {
			t.Fatalf("Reach of %d, of %d vertices, is %v", v, n, got)
		}
	}
}

// checkHeavy holds the classes of heavy edges against those of all that weigh as much, for limits at and beside all weights, and at the ends of the numbers.
func checkHeavy(t *testing.T, g *net.Net) {
	t.Helper()
	edges := g.Edges()
	limits := []int64{math.MinInt64, math.MinInt64 + 1, -1 << 32, -1, 0, 1, 1 << 31, 1 << 32, 1 << 51, math.MaxInt64 - 1, math.MaxInt64}
	for _, e := range edges {
		limits = append(limits, e.W-1, e.W, e.W+1)
	}
	slices.Sort(limits)
	for _, least := range slices.Compact(limits) {
		want := wantClasses(wantNames(g.N(), atLeast(edges, least)))
		if got := Heavy(g, least); !same(got, want) {
			t.Fatalf("Heavy(%v, %d) is %v, not %v", edges, least, got, want)
		}
	}
}

// checkBridges holds the bridges of g against those numbers.
func checkBridges(t *testing.T, g *net.Net, want []int) {
	t.Helper()
	if got := Bridges(g); !slices.Equal(got, want) {
		t.Fatalf("Bridges of %v are %v, not %v", g.Edges(), got, want)
	}
}

// checkWithout takes each edge of g away: what hangs together stays as it was, or there is one class more if the edge is a bridge.
func checkWithout(t *testing.T, g *net.Net) {
	t.Helper()
	edges, bridges := g.Edges(), Bridges(g)
	for i := range edges {
		told, _ := edge.Split(without(edges, i)) // a merged edge may weigh more than one that is told
		rest := graphs.Of(t, g.N(), told)
		if slices.Contains(bridges, i) {
			if Count(rest) != Count(g)+1 {
				t.Fatalf("%v without the bridge %d: %v", edges, i, Of(rest))
			}
		} else if !same(Of(rest), Of(g)) {
			t.Fatalf("%v without %d: %v", edges, i, Of(rest))
		}
	}
}

// checkGraph holds all that is told of a graph of few edges against what is found by going over them.
func checkGraph(t *testing.T, g *net.Net) {
	t.Helper()
	n, edges := g.N(), g.Edges()
	checkClasses(t, g, wantNames(n, edges))
	checkBridges(t, g, wantBridges(n, edges))
}

// P20.1, P20.2: the chapter's example.
func TestExample(t *testing.T) {
	g := graphs.Of(t, 4, lists.Edges(0, 1, 1, 1, 2, 1))
	if got := Of(g); !same(got, [][]int{{0, 1, 2}, {3}}) {
		t.Errorf("Of: %v", got)
	}
	checkBridges(t, g, []int{0, 1})
	checkGraph(t, g)
}

// P20.1, P20.2: a graph that is written down, of three rings, of which two have a vertex in common, and of ways between and beside them.
func TestWritten(t *testing.T) {
	g := graphs.Of(t, 14, lists.Edges(
		9, 4, 7, 4, 6, 7, 6, 9, 7, // a ring
		6, 2, 3, // a bridge to the next one
		2, 11, 5, 11, 8, 5, 8, 5, 4, 5, 2, 5, // a ring
		5, 13, 9, 13, 3, 8, 3, 5, 9, // a ring that has 5 with it in common
		3, 1, 1<<31, 3, 1, 1<<31, // told twice, and a bridge nevertheless
		12, 7, 6, 7, 7, 9, // beside them
	))
	// In order they are 1 3, 2 5, 2 6, 2 11, 3 5, 3 13, 4 6, 4 9, 5 8, 5 13, 6 9, 7 12 and 8 11.
	checkBridges(t, g, []int{0, 2, 11})
	if got := Of(g); !same(got, [][]int{{0}, {1, 2, 3, 4, 5, 6, 8, 9, 11, 13}, {7, 12}, {10}}) {
		t.Errorf("Of: %v", got)
	}
	if got := Name(g); !slices.Equal(got, []int{0, 1, 1, 1, 1, 1, 1, 7, 1, 1, 10, 1, 7, 1}) {
		t.Errorf("Name: %v", got)
	}
	for least, want := range map[int64][][]int{
		4:         {{0}, {1, 2, 3, 5, 8, 11, 13}, {4, 6, 9}, {7, 12}, {10}},
		5:         {{0}, {1, 2, 3, 5, 8, 11, 13}, {4, 6, 9}, {7, 12}, {10}},
		6:         {{0}, {1, 3, 5, 13}, {2}, {4, 6, 9}, {7, 12}, {8}, {10}, {11}},
		8:         {{0}, {1, 3, 5, 13}, {2}, {4}, {6}, {7}, {8}, {9}, {10}, {11}, {12}},
		1<<31 + 1: {{0}, {1, 3}, {2}, {4}, {5}, {6}, {7}, {8}, {9}, {10}, {11}, {12}, {13}},
	} {
		if got := Heavy(g, least); !same(got, want) {
			t.Errorf("Heavy(%d): %v", least, got)
		}
	}
	checkGraph(t, g)
	checkHeavy(t, g)
	checkWithout(t, g)
}

// P20.1 to P20.3: all graphs of up to five vertices, and those of six by all that is told but Heavy.
func TestAllGraphs(t *testing.T) {
	for n := range 7 {
		pairs := allPairs(n)
		for some := range 1 << len(pairs) {
			var l []api.Edge
			for i, e := range pairs {
				if some>>i&1 == 1 {
					l = append(l, e)
				}
			}
			g := graphs.Of(t, n, l)
			checkGraph(t, g)
			if n < 6 {
				checkHeavy(t, g)
				checkWithout(t, g)
			}
		}
	}
}

// allPairs are edges between all pairs of n vertices, some of them of the same weight.
func allPairs(n int) []api.Edge {
	var l []api.Edge
	for v := range n {
		for u := range v {
			l = append(l, api.Edge{U: v, V: u, W: int64(u*v%5 + 1)})
		}
	}
	return l
}

// P20.1 to P20.3: all graphs that short lists of edges make: what is told twice is one edge, and a bridge as such; what leads from a vertex to itself, or weighs nothing, is none.
func TestShortLists(t *testing.T) {
	lists.Each(4, lists.Edges(0, 1, 1, 2, 1, 1<<31, 1, 1, 5, 0, 3, 1, 2, 0, 2, 1, 3, 0, 2, 3, 7), func(l []api.Edge) {
		g := graphs.Of(t, 5, l)
		checkGraph(t, g)
		checkWithout(t, g)
	})
}

// P20.1 to P20.3: graphs of few and of many edges.
func TestManyEdges(t *testing.T) {
	for _, c := range []struct{ n, m int }{{1, 9}, {2, 50}, {5, 3}, {7, 9}, {9, 9}, {12, 14}, {20, 20}, {30, 40}, {64, 64}, {65, 90}, {100, 80}, {40, 300}} {
		for seed := range uint64(12) {
			g := graphs.Of(t, c.n, scatter.Edges(seed, c.n, c.m))
			checkGraph(t, g)
			checkHeavy(t, g)
			checkWithout(t, g)
			checkBridges(t, g, lowBridges(g))
		}
	}
}

// lowBridges are the bridges of g, found in another way, for graphs of many edges: going on from each vertex as far as it leads, those edges are bridges beyond which no other edge leads back to what was met ahead.
func lowBridges(g *net.Net) []int {
	met, numbers := make([]int, g.N()), map[[2]int]int{}
	for i, e := range g.Edges() {
		numbers[[2]int{e.U, e.V}] = i
	}
	var bridges []int
	count := 0
	var visit func(v, from int) int
	visit = func(v, from int) int {
		count++
		met[v] = count
		low := count
		for _, u := range g.Near(v) {
			switch {
			case u == from:
			case met[u] != 0:
				low = min(low, met[u])
			default:
				beyond := visit(u, v)
				if beyond > met[v] {
					bridges = append(bridges, numbers[[2]int{min(u, v), max(u, v)}])
				}
				low = min(low, beyond)
			}
		}
		return low
	}
	for v := range met {
		if met[v] == 0 {
			visit(v, -1)
		}
	}
	slices.Sort(bridges)
	return bridges
}

// checkGreat holds what is told of a graph of many vertices or edges against what is found otherwise; Reach is asked of some vertices.
func checkGreat(t *testing.T, g *net.Net) {
	t.Helper()
	names := wantNames(g.N(), g.Edges())
	if got := Name(g); !slices.Equal(got, names) {
		t.Fatalf("%d vertices, %d edges: Name", g.N(), g.M())
	}
	var classes [][]int
	places := make([]int, len(names))
	for v, name := range names {
		if v == name {
			places[v] = len(classes)
			classes = append(classes, nil)
		}
		classes[places[name]] = append(classes[places[name]], v)
	}
	if !same(Of(g), classes) || !same(Heavy(g, 0), classes) || Count(g) != len(classes) {
		t.Fatalf("%d vertices, %d edges: %d classes, not %d", g.N(), g.M(), Count(g), len(classes))
	}
	for v := 0; v < g.N(); v += 1 + g.N()/40 {
		if !slices.Equal(Reach(g, v), classes[places[names[v]]]) {
			t.Fatalf("%d vertices, %d edges: Reach of %d", g.N(), g.M(), v)
		}
	}
	if got, want := Bridges(g), lowBridges(g); !slices.Equal(got, want) {
		t.Fatalf("%d vertices, %d edges: %d bridges, not %d", g.N(), g.M(), len(got), len(want))
	}
}

// path is a way over all these vertices, one after the other.
func path(order []int) []api.Edge {
	var l []api.Edge
	for i := range max(len(order)-1, 0) {
		l = append(l, api.Edge{U: order[i], V: order[i+1], W: 3})
	}
	return l
}

// orders are some in which all vertices from 0 to n - 1 come: rising, falling, from the ends to the middle, and in a way that looks like chance.
func orders(n int) [][]int {
	var rising, inward []int
	for v := range n {
		rising = append(rising, v)
		inward = append(inward, []int{v / 2, n - 1 - v/2}[v%2])
	}
	falling, strewn := slices.Clone(rising), slices.Clone(rising)
	slices.Reverse(falling)
	for i, j := range scatter.Below(3, n, n) {
		strewn[i], strewn[j] = strewn[j], strewn[i]
	}
	return [][]int{rising, falling, inward, strewn}
}

// P20.1, P20.2: as many vertices as there may be, one after the other: all edges are bridges; of a ring none is; of a ring with a tail those of the tail are.
func TestLongWays(t *testing.T) {
	for _, order := range orders(api.MaxN) {
		l := path(order)
		g := graphs.Of(t, api.MaxN, l)
		checkGreat(t, g)
		if Count(g) != 1 || len(Bridges(g)) != api.MaxN-1 {
			t.Errorf("a way: %d classes, %d bridges", Count(g), len(Bridges(g)))
		}
		for _, end := range []int{2, 3, 100, 2048, api.MaxN - 2, api.MaxN - 1} {
			ring := graphs.Of(t, api.MaxN, append(l, api.Edge{U: order[0], V: order[end], W: 1}))
			checkGreat(t, ring)
			if got := len(Bridges(ring)); got != api.MaxN-1-end || Count(ring) != 1 {
				t.Errorf("a ring up to %d: %d classes, %d bridges", end, Count(ring), got)
			}
			if got := Heavy(ring, 4); len(got) != api.MaxN {
				t.Errorf("no edge weighs 4: %d classes", len(got))
			}
		}
	}
}

// P20.1, P20.2: as many vertices as there may be: alone, all around one, in pairs, in trees, and with edges all over.
func TestMostVertices(t *testing.T) {
	alone := graphs.Of(t, api.MaxN, nil)
	checkGreat(t, alone)
	if Count(alone) != api.MaxN || len(Bridges(alone)) != 0 || !slices.Equal(Reach(alone, api.MaxN-1), []int{api.MaxN - 1}) {
		t.Errorf("%d classes", Count(alone))
	}
	var around, twos, tree []api.Edge
	for v := 1; v < api.MaxN; v++ {
		around = append(around, api.Edge{U: v, V: 0, W: 1})
		tree = append(tree, api.Edge{U: v, V: v / 3, W: int64(v)})
		if v%2 == 1 {
			twos = append(twos, api.Edge{U: v, V: v - 1, W: 1})
		}
	}
	for _, l := range [][]api.Edge{around, twos, tree} {
		g := graphs.Of(t, api.MaxN, l)
		checkGreat(t, g)
		if Count(g) != api.MaxN-len(l) || len(Bridges(g)) != len(l) {
			t.Errorf("%d classes, %d bridges", Count(g), len(Bridges(g)))
		}
	}
	for seed, m := range []int{1000, 2000, 4000, 5000, 8000, 1 << 16} {
		checkGreat(t, graphs.Of(t, api.MaxN, scatter.Edges(uint64(seed), api.MaxN, m)))
	}
}

// P20.1, P20.2: many rings one beside the other, and each edge between two of them a bridge.
func TestManyRings(t *testing.T) {
	for _, length := range []int{3, 4, 7, 64} {
		for _, order := range orders(api.MaxN / length * length) {
			var l []api.Edge
			for first := 0; first < len(order); first += length {
				l = append(l, path(order[first:first+length])...)
				l = append(l, api.Edge{U: order[first], V: order[first+length-1], W: 2})
			}
			rings := graphs.Of(t, len(order), l)
			checkGreat(t, rings)
			if len(Bridges(rings)) != 0 || Count(rings) != len(order)/length {
				t.Errorf("%d classes, %d bridges", Count(rings), len(Bridges(rings)))
			}
			chain := graphs.Of(t, len(order), append(l, path(order)...))
			checkGreat(t, chain)
			if len(Bridges(chain)) != len(order)/length-1 || Count(chain) != 1 {
				t.Errorf("%d classes, %d bridges", Count(chain), len(Bridges(chain)))
			}
		}
	}
}

// P20.1, P20.2: as many edges as there may be, with a tail of which each edge is a bridge, and in two classes of which neither has one.
func TestMostEdges(t *testing.T) {
	const n = 1449 // n (n - 1) / 2 is just above 2^20
	var all []api.Edge
	for v := range n {
		for u := range v {
			all = append(all, api.Edge{U: v, V: u, W: int64(u + v)})
		}
	}
	tail := graphs.Of(t, n+200, slices.Concat(all[:api.MaxM-200], path(orders(n + 200)[0][n-1:])))
	checkGreat(t, tail)
	if got := len(Bridges(tail)); tail.M() != api.MaxM || got != 200 {
		t.Errorf("%d edges, %d bridges", tail.M(), got)
	}
	two := slices.Clone(all[:n*(n-3)/4])
	for i, e := range two {
		two[i] = api.Edge{U: 2 * e.U, V: 2 * e.V, W: 1}
		two = append(two, api.Edge{U: 2*e.U + 1, V: 2*e.V + 1, W: 1})
	}
	checkGreat(t, graphs.Of(t, 2*n, two))
}

// P20.1: an edge may weigh as much as one that was merged of many; at just that it counts, above it not.
func TestHeaviest(t *testing.T) {
	g := graphs.Of(t, 4, slices.Repeat(lists.Edges(3, 1, api.MaxW), api.MaxM))
	if got := Heavy(g, 1<<51); !same(got, [][]int{{0}, {1, 3}, {2}}) {
		t.Errorf("at it: %v", got)
	}
	if got := Heavy(g, 1<<51+1); !same(got, [][]int{{0}, {1}, {2}, {3}}) {
		t.Errorf("above it: %v", got)
	}
	checkGraph(t, g)
	checkHeavy(t, g)
}

// P20.1, P20.2, P7: of a nil graph and of one without vertices there is nothing, and of one without edges each vertex is by itself.
func TestNone(t *testing.T) {
	for _, g := range []*net.Net{nil, graphs.Of(t, 0, nil)} {
		if len(Of(g)) != 0 || len(Heavy(g, 0)) != 0 || len(Heavy(g, math.MinInt64)) != 0 || len(Name(g)) != 0 || Count(g) != 0 || len(Bridges(g)) != 0 {
			t.Errorf("%v: %v, %v, %d", g, Of(g), Name(g), Count(g))
		}
		for v := -5; v < 5; v++ {
			if len(Reach(g, v)) != 0 {
				t.Errorf("Reach(%d) is %v", v, Reach(g, v))
			}
		}
		checkGraph(t, g)
		checkHeavy(t, g)
	}
	for n := range 9 {
		g := graphs.Of(t, n, make([]api.Edge, n))
		checkGraph(t, g)
		checkHeavy(t, g)
		if Count(g) != n || len(Bridges(g)) != 0 {
			t.Errorf("%d vertices: %d classes", n, Count(g))
		}
	}
}

// P4: what is answered is new memory, up to its capacity, and the graph is not changed.
func TestAnswersAreNewMemory(t *testing.T) {
	l := scatter.Edges(3, 40, 45)
	g, twin := graphs.Of(t, 40, l), graphs.Of(t, 40, l)
	for range 3 {
		lists.Spoil(Name(g))
		lists.Spoil(Bridges(g))
		for v := range 40 {
			lists.Spoil(Reach(g, v))
		}
		for _, classes := range [][][]int{Of(g), Heavy(g, 1000)} {
			for _, class := range classes {
				lists.Spoil(class)
			}
		}
		clear(Of(g))
		clear(Heavy(g, 1000))
		checkGraph(t, g)
	}
	if !net.Same(g, twin) {
		t.Error("another graph")
	}
}

// P4: no two lists of one answer share memory, up to their capacity.
func TestClassesShareNone(t *testing.T) {
	g := graphs.Of(t, 40, scatter.Edges(3, 40, 45))
	for _, classes := range [][][]int{Of(g), Heavy(g, 1000)} {
		for i, class := range classes {
			lists.Spoil(class)
			for _, other := range classes[i+1:] {
				if slices.Contains(other, lists.Spoilt) {
					t.Fatalf("%d reaches into the next ones", i)
				}
			}
			for j := range class {
				class[j] = -7
			}
		}
	}
}

// P5: what is told is the same each time, whatever was asked ahead, and of whatever graph.
func TestAgain(t *testing.T) {
	g, twin := graphs.Of(t, 60, scatter.Edges(6, 60, 70)), graphs.Of(t, 60, scatter.Edges(6, 60, 70))
	for seed := range uint64(20) {
		checkGraph(t, graphs.Of(t, 50, scatter.Edges(seed, 50, 60)))
		if !same(Of(g), Of(twin)) || !same(Heavy(g, 9), Heavy(twin, 9)) || !slices.Equal(Name(g), Name(twin)) || !slices.Equal(Bridges(g), Bridges(twin)) || !slices.Equal(Reach(g, 7), Reach(twin, 7)) {
			t.Fatal("not the same")
		}
		checkGraph(t, g)
	}
}
