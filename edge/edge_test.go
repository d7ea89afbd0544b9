package edge

import (
	"math"
	"math/big"
	"slices"
	"testing"

	"strait/api"
	"strait/lists"
	"strait/scatter"
)

const (
	lowest  = math.MinInt64
	highest = math.MaxInt64
)

// Vertices of edges that nobody looked at may be any numbers; these rise.
var anyVertices = []int{math.MinInt, math.MinInt + 1, -1 << 32, -2, -1, 0, 1, 2, 1 << 32, 1<<32 + 1, math.MaxInt - 1, math.MaxInt}

// Weights of edges that nobody looked at; these rise.
var anyWeights = []int64{lowest, lowest + 1, -1 << 32, -1, 0, 1, api.MaxW - 1, api.MaxW, api.MaxW + 1, 1 << 32, highest - 1, highest}

// edge writes an edge in short.
func edge(u, v int, w int64) api.Edge {
	return api.Edge{U: u, V: v, W: w}
}

// turned is the list with the edges of every second place, or every third, the other way round.
func turned(l []api.Edge, each int) []api.Edge {
	l = slices.Clone(l)
	for i, e := range l {
		if i%each == 0 {
			l[i] = edge(e.V, e.U, e.W)
		}
	}
	return l
}

// shuffled is the list in another order, as the seed says.
func shuffled(l []api.Edge, seed uint64) []api.Edge {
	l = slices.Clone(l)
	for i, word := range scatter.Words(seed, len(l)) {
		j := int(word % uint64(i+1))
		l[i], l[j] = l[j], l[i]
	}
	return l
}

// fitting is the sum of the weights, if it and all those on the way fit.
func fitting(weights []int64) (int64, bool) {
	sum := new(big.Int)
	for _, w := range weights {
		if !sum.Add(sum, big.NewInt(w)).IsInt64() {
			return 0, false
		}
	}
	return sum.Int64(), true
}

// between are the weights of the edges of u and v, either way round, in order.
func between(l []api.Edge, u, v int) []int64 {
	var weights []int64
	for _, e := range l {
		if e.U == u && e.V == v || e.U == v && e.V == u {
			weights = append(weights, e.W)
		}
	}
	return weights
}

// wantMerge goes over all vertices of l, rising, and over all above each, and looks all of l through for the two.
func wantMerge(l []api.Edge) ([]api.Edge, bool) {
	var vertices []int
	for _, e := range l {
		vertices = append(vertices, e.U, e.V)
	}
	slices.Sort(vertices)
	vertices = slices.Compact(vertices)
	var want []api.Edge
	for i, u := range vertices {
		for _, v := range vertices[i+1:] {
			w, ok := fitting(between(l, u, v))
			if !ok {
				return nil, false
			}
			if w != 0 {
				want = append(want, edge(u, v, w))
			}
		}
	}
	return want, true
}

// checkMerge holds Merge of l against what is looked through.
func checkMerge(t *testing.T, l []api.Edge) {
	t.Helper()
	before := slices.Clone(l)
	want, wantOK := wantMerge(l)
	if got, ok := Merge(l); ok != wantOK || !slices.Equal(got, want) {
		t.Fatalf("Merge(%v) is %v, %v, not %v, %v", l, got, ok, want, wantOK)
	}
	if !slices.Equal(l, before) {
		t.Fatalf("%v became %v", before, l)
	}
}

// checkWritten holds Merge of l against what is written down, and what is looked through too.
func checkWritten(t *testing.T, l, want []api.Edge, wantOK bool) {
	t.Helper()
	if got, ok := Merge(l); ok != wantOK || !slices.Equal(got, want) {
		t.Errorf("Merge(%v) is %v, %v, not %v, %v", l, got, ok, want, wantOK)
	}
	checkMerge(t, l)
}

// P15.1: an edge may be if both its vertices and its weight may; the vertices are looked at first.
func TestCheck(t *testing.T) {
	for _, c := range []struct {
		n        int
		yes, not []int
	}{
		{3, []int{0, 1, 2}, []int{3, 4, -1, -2, -3, math.MinInt, math.MaxInt, 1 << 32, 1<<32 + 1, -1 << 32}},
		{1, []int{0}, []int{1, 2, -1, math.MinInt, math.MaxInt, 1 << 32}},
		{0, nil, []int{0, 1, -1, math.MinInt, math.MaxInt, 1 << 32}},
		{-1, nil, []int{0, -1, -2, 1, math.MinInt, math.MaxInt}},
		{math.MinInt, nil, []int{0, -1, 1, math.MinInt, math.MaxInt}},
		{api.MaxN, []int{0, 5, api.MaxN - 1}, []int{api.MaxN, api.MaxN + 1, -1, -api.MaxN}},
		{api.MaxN + 9, []int{0, api.MaxN, api.MaxN + 8}, []int{api.MaxN + 9, -1}},
		{math.MaxInt, []int{0, 1, 1 << 32, math.MaxInt - 1}, []int{math.MaxInt, -1, math.MinInt}},
	} {
		for _, w := range []int64{0, 1, 7, 1 << 30, api.MaxW - 1, api.MaxW} {
			checkVertices(t, c.n, c.yes, c.not, w, api.OK)
		}
		for _, w := range []int64{-1, -7, -api.MaxW, lowest, lowest + 1, api.MaxW + 1, 1 << 32, 1<<32 + 1, highest, highest - 1} {
			checkVertices(t, c.n, c.yes, c.not, w, api.ErrWeight)
		}
	}
}

// checkVertices holds Check of all edges of these vertices, of which the second ones can't be, against what the weight alone has.
func checkVertices(t *testing.T, n int, yes, not []int, w int64, why api.Errno) {
	t.Helper()
	all := slices.Concat(yes, not)
	for i, u := range all {
		for j, v := range all {
			want := why
			if i >= len(yes) || j >= len(yes) {
				want = api.ErrVertex
			}
			if got := Check(n, edge(u, v, w)); got != want {
				t.Errorf("Check(%d, %v) is %d, not %d", n, edge(u, v, w), got, want)
			}
		}
	}
}

// P15.1: an edge from a vertex to itself may be, and one either way round.
func TestCheckOfAllPairs(t *testing.T) {
	for u := range 5 {
		for v := range 5 {
			if got := Check(5, edge(u, v, 2)); got != api.OK {
				t.Errorf("%d %d: %d", u, v, got)
			}
		}
	}
}

// P15.1, P2: Checks tells the first edge that has an error, whichever error that is.
func TestChecks(t *testing.T) {
	wrong := map[api.Edge]api.Errno{
		edge(3, 0, 1):   api.ErrVertex,
		edge(0, -1, -1): api.ErrVertex,
		edge(2, 0, -1):  api.ErrWeight,
	}
	lists.Each(4, lists.Edges(0, 1, 5, 2, 2, 0, 3, 0, 1, 0, -1, -1, 2, 0, -1), func(l []api.Edge) {
		want, wantAt := api.OK, 0
		for i := len(l) - 1; i >= 0; i-- {
			if wrong[l[i]] != api.OK {
				want, wantAt = wrong[l[i]], i
			}
		}
		if got, at := Checks(3, l); got != want || at != wantAt {
			t.Fatalf("Checks(3, %v) is %d, %d, not %d, %d", l, got, at, want, wantAt)
		}
	})
	for _, n := range []int{math.MinInt, -1, 0, 1, 3, math.MaxInt} {
		for _, l := range [][]api.Edge{nil, {}, make([]api.Edge, 0, 4)} {
			if got, at := Checks(n, l); got != api.OK || at != 0 {
				t.Errorf("none of %d: %d, %d", n, got, at)
			}
		}
	}
	if got, at := Checks(0, lists.Edges(0, 0, 0)); got != api.ErrVertex || at != 0 {
		t.Errorf("of no vertices: %d, %d", got, at)
	}
}

// P15.1: Checks, at each place of a long list.
func TestChecksOfLongLists(t *testing.T) {
	const n = 3000
	l := make([]api.Edge, n)
	for i := range l {
		l[i] = edge(i, n-1-i, int64(i))
	}
	if got, at := Checks(n, l); got != api.OK || at != 0 {
		t.Errorf("%d, %d", got, at)
	}
	for i := range l {
		was := l[i]
		l[i] = edge(i, n-1-i, api.MaxW+1)
		if got, at := Checks(n, l); got != api.ErrWeight || at != i {
			t.Fatalf("a weight at %d: %d, %d", i, got, at)
		}
		l[i] = edge(i, n, -1)
		if got, at := Checks(n, l); got != api.ErrVertex || at != i {
			t.Fatalf("a vertex at %d: %d, %d", i, got, at)
		}
		l[i] = was
	}
}

// P15.1: Normal turns an edge round where U is above V, and only there.
func TestNormal(t *testing.T) {
	for i, low := range anyVertices {
		for _, high := range anyVertices[i:] {
			for _, w := range anyWeights {
				want := edge(low, high, w)
				for _, e := range []api.Edge{want, edge(high, low, w)} {
					before := e
					if got := Normal(e); got != want || e != before || Normal(got) != got {
						t.Fatalf("Normal(%v) is %v, not %v", before, got, want)
					}
				}
			}
		}
	}
}

// P15.1: Cmp holds U, then V, then W against each other, as they stand.
func TestCmp(t *testing.T) {
	var rising []api.Edge
	for _, u := range []int{math.MinInt, -1, 0, 1, 2, math.MaxInt} {
		for _, v := range []int{math.MinInt, -1, 0, 1, 2, math.MaxInt} {
			for _, w := range []int64{lowest, -1, 0, 1, 1 << 32, highest} {
				rising = append(rising, edge(u, v, w))
			}
		}
	}
	for i, a := range rising {
		for j, b := range rising {
			want := 0
			if i < j {
				want = -1
			}
			if i > j {
				want = 1
			}
			if got := Cmp(a, b); got != want {
				t.Fatalf("Cmp(%v, %v) is %d, not %d", a, b, got, want)
			}
		}
	}
	// In their normal forms these would be alike, and the other way round.
	if Cmp(edge(0, 2, 5), edge(2, 0, 5)) != -1 || Cmp(edge(3, 0, 1), edge(1, 2, 1)) != 1 {
		t.Error("edges are not held as they stand")
	}
}

// P15.2: the chapter's example, and some that are written down.
func TestMerge(t *testing.T) {
	for _, c := range []struct {
		l, want []api.Edge
	}{
		{nil, nil},
		{[]api.Edge{}, nil},
		{lists.Edges(2, 1, 3, 1, 2, 4, 1, 1, 9), lists.Edges(1, 2, 7)},
		{lists.Edges(0, 1, 5), lists.Edges(0, 1, 5)},
		{lists.Edges(1, 0, 5), lists.Edges(0, 1, 5)},
		{lists.Edges(1, 1, 5), nil},
		{lists.Edges(0, 1, 0), nil},
		{lists.Edges(0, 1, 5, 0, 1, -5), nil},
		{lists.Edges(0, 1, 0, 1, 0, 3, 0, 1, 0), lists.Edges(0, 1, 3)},
		{lists.Edges(0, 1, 5, 1, 0, -5, 0, 1, 2), lists.Edges(0, 1, 2)},
		{lists.Edges(0, 1, 5, 1, 0, -7), lists.Edges(0, 1, -2)},
		{lists.Edges(3, 2, 1, 0, 3, 2, 2, 0, 3, 1, 0, 4), lists.Edges(0, 1, 4, 0, 2, 3, 0, 3, 2, 2, 3, 1)},
		{lists.Edges(-1, -3, 4, 7, -3, 2), lists.Edges(-3, -1, 4, -3, 7, 2)},
		{lists.Edges(0, 1, 1<<31, 1, 0, 1<<31), lists.Edges(0, 1, 1<<32)},
		{lists.Edges(0, 1, lowest), lists.Edges(0, 1, lowest)},
	} {
		checkWritten(t, c.l, c.want, true)
	}
}

// P15.2: sums that don't fit, on the way or in the end, of whichever pair; what goes from a vertex to itself is not added at all.
func TestMergeOfWhatDoesNotFit(t *testing.T) {
	for _, c := range []struct {
		l, want []api.Edge
		ok      bool
	}{
		{lists.Edges(0, 1, highest, 0, 1, 1), nil, false},
		{lists.Edges(0, 1, highest, 1, 0, 1), nil, false},
		{lists.Edges(0, 1, lowest, 1, 0, -1), nil, false},
		{lists.Edges(0, 1, 1<<62, 1, 0, 1<<62), nil, false},
		{lists.Edges(0, 1, 1<<62, 1, 0, 1<<62-1), lists.Edges(0, 1, highest), true},
		{lists.Edges(0, 1, highest, 1, 0, 1, 0, 1, -1), nil, false},
		{lists.Edges(0, 1, highest, 1, 0, -1, 0, 1, 1), lists.Edges(0, 1, highest), true},
		{lists.Edges(0, 1, 1, 1, 0, highest, 0, 1, -1), nil, false},
		{lists.Edges(0, 1, -1, 1, 0, highest, 0, 1, 1), lists.Edges(0, 1, highest), true},
		{lists.Edges(0, 1, lowest, 1, 0, highest), lists.Edges(0, 1, -1), true},
		{lists.Edges(0, 1, highest, 0, 2, 1), lists.Edges(0, 1, highest, 0, 2, 1), true},
		{lists.Edges(0, 1, highest, 1, 2, highest, 0, 2, highest), lists.Edges(0, 1, highest, 0, 2, highest, 1, 2, highest), true},
		{lists.Edges(0, 2, 3, 0, 1, highest, 0, 2, 4, 1, 0, highest, 0, 2, 5), nil, false},
		{lists.Edges(1, 1, highest, 1, 1, highest, 0, 1, 2), lists.Edges(0, 1, 2), true},
		{lists.Edges(1, 1, highest, 0, 1, highest, 0, 0, highest), lists.Edges(0, 1, highest), true},
		{lists.Edges(1, 1, lowest, 1, 1, lowest), nil, true},
	} {
		checkWritten(t, c.l, c.want, c.ok)
	}
}

// P15.2: all short lists, of few unlike edges.
func TestMergeOfShortLists(t *testing.T) {
	lists.Each(4, lists.Edges(0, 1, 2, 1, 0, 3, 1, 0, -2, 2, 0, 1, 2, 1, 0, 1, 1, 9, 2, 1, -1), func(l []api.Edge) { checkMerge(t, l) })
	lists.Each(4, lists.Edges(0, 1, 1, 1, 0, highest, 0, 1, -1, 1, 0, lowest, 2, 0, highest, 1, 1, highest), func(l []api.Edge) { checkMerge(t, l) })
	var pairs []api.Edge
	for u := -1; u <= 2; u++ {
		for v := -1; v <= 2; v++ {
			pairs = append(pairs, edge(u, v, int64(1+u+10*v)))
		}
	}
	lists.Each(3, pairs, func(l []api.Edge) { checkMerge(t, l) })
}

// P15.2: vertices and weights may be any numbers.
func TestMergeOfAnyNumbers(t *testing.T) {
	for _, u := range anyVertices {
		for _, v := range anyVertices {
			for _, w := range anyWeights {
				checkMerge(t, []api.Edge{edge(u, v, w)})
				checkMerge(t, []api.Edge{edge(u, v, w), edge(0, 1, 7), edge(v, u, 2)})
			}
		}
	}
	// Pairs whose numbers would be the same ones if they were put together in 64 bits.
	checkMerge(t, []api.Edge{edge(0, 1<<32+1, 1), edge(1, 1, 2), edge(1, 1<<32, 4), edge(1<<32, 1, 8), edge(-1, 0, 16), edge(0, math.MaxUint32, 32)})
}

// P15.2: longer lists, of many pairs and of few.
func TestMergeOfLongLists(t *testing.T) {
	for seed, n := range []int{1, 2, 3, 7, 20, 60} {
		for _, many := range []int{5, 40, 300} {
			checkMerge(t, scatter.Edges(uint64(seed+many), n, many))
		}
	}
	l := scatter.Edges(99, 9, 200)
	for i := range l {
		l[i].W -= api.MaxW / 3
	}
	checkMerge(t, l)
}

// P15.2, P5: of very long lists all pairs come once, rising, and each time alike.
func TestMergeOfVeryLongLists(t *testing.T) {
	const n = 700
	var l, want []api.Edge
	for u := range n {
		for v := range u {
			l = append(l, edge(u, v, int64(u)), edge(v, u, int64(v)), edge(v, v, 1))
		}
	}
	for u := range n {
		for v := u + 1; v < n; v++ {
			want = append(want, edge(u, v, int64(u+v)))
		}
	}
	for range 3 {
		if got, ok := Merge(l); !ok || !slices.Equal(got, want) {
			t.Fatalf("%d edges, %v, not %d", len(got), ok, len(want))
		}
	}
}

// P15.2: a pair that comes as often as there may be edges, of the greatest weight.
func TestMergeOfManyParallelEdges(t *testing.T) {
	l := slices.Repeat(lists.Edges(1, 0, api.MaxW), api.MaxM)
	if got, ok := Merge(l); !ok || !slices.Equal(got, lists.Edges(0, 1, 1<<51)) {
		t.Errorf("%v, %v", got, ok)
	}
}

// wantFind looks for the first edge that has both, all others having been passed.
func wantFind(l []api.Edge, u, v int) int {
	for i := range l {
		if len(between(l[:i+1], u, v)) > 0 {
			return i
		}
	}
	return -1
}

// P15.3: Find tells the first edge of both, either way round, whatever it weighs.
func TestFind(t *testing.T) {
	lists.Each(4, lists.Edges(0, 1, 5, 1, 0, 7, 1, 1, 0, 2, 1, -3, -1, 2, 0), func(l []api.Edge) {
		for u := -2; u <= 3; u++ {
			for v := -2; v <= 3; v++ {
				if got, want := Find(l, u, v), wantFind(l, u, v); got != want {
					t.Fatalf("Find(%v, %d, %d) is %d, not %d", l, u, v, got, want)
				}
			}
		}
	})
	l := lists.Edges(2, 1, 3, 0, 2, 1, 1, 2, 4, 1, 1, 9, 1, 0, 0)
	for _, c := range []struct{ u, v, want int }{
		{1, 2, 0}, {2, 1, 0}, {0, 2, 1}, {2, 0, 1}, {1, 1, 3}, {0, 1, 4}, {1, 0, 4}, {0, 0, -1}, {2, 2, -1}, {0, 3, -1}, {-1, -1, -1},
	} {
		if got := Find(l, c.u, c.v); got != c.want {
			t.Errorf("Find of %d and %d is %d, not %d", c.u, c.v, got, c.want)
		}
	}
	for _, none := range [][]api.Edge{nil, {}, make([]api.Edge, 0, 4)} {
		if Find(none, 0, 0) != -1 || Find(none, 0, 1) != -1 {
			t.Error("something is found where there is none")
		}
	}
}

// P15.3: Find, of any numbers, and of each place of a long list.
func TestFindOfAnyNumbers(t *testing.T) {
	var l []api.Edge
	for _, u := range anyVertices {
		for _, v := range anyVertices {
			l = append(l, edge(u, v, anyWeights[len(l)%len(anyWeights)]))
		}
	}
	for i, u := range anyVertices {
		for j, v := range anyVertices {
			// The two stand at two places; the one with the lower number ahead comes first.
			want := min(i, j)*len(anyVertices) + max(i, j)
			if got := Find(l, u, v); got != want {
				t.Errorf("Find of %d and %d is %d, not %d", u, v, got, want)
			}
			if got := Find(l, u, 77); got != -1 {
				t.Errorf("Find of %d and 77 is %d", u, got)
			}
		}
	}
}

// P15.3: Total adds all weights, those from a vertex to itself too, one by one.
func TestTotal(t *testing.T) {
	for _, c := range []struct {
		l    []api.Edge
		want int64
		ok   bool
	}{
		{nil, 0, true},
		{[]api.Edge{}, 0, true},
		{lists.Edges(0, 1, 5), 5, true},
		{lists.Edges(2, 1, 3, 0, 2, 1, 1, 2, 4, 1, 1, 9, 1, 0, 0), 17, true},
		{lists.Edges(0, 1, 5, 0, 1, -5), 0, true},
		{lists.Edges(-4, 9, -5), -5, true},
		{lists.Edges(0, 1, highest, 3, 2, lowest), -1, true},
		{lists.Edges(0, 1, highest), highest, true},
		{lists.Edges(0, 1, highest, 2, 3, 1), 0, false},
		{lists.Edges(0, 1, highest, 2, 2, 1), 0, false},
		{lists.Edges(0, 1, lowest, 2, 2, -1), 0, false},
		{lists.Edges(0, 1, highest, 2, 3, 1, 4, 5, -1), 0, false},
		{lists.Edges(0, 1, highest, 4, 5, -1, 2, 3, 1), highest, true},
		{lists.Edges(0, 1, 1<<62, 2, 3, 1<<62), 0, false},
	} {
		if got, ok := Total(c.l); got != c.want || ok != c.ok {
			t.Errorf("Total(%v) is %d, %v, not %d, %v", c.l, got, ok, c.want, c.ok)
		}
	}
	var brinks []api.Edge
	for _, w := range anyWeights {
		brinks = append(brinks, edge(1, 1, w))
	}
	lists.Each(3, brinks, func(l []api.Edge) {
		want, wantOK := fitting(between(l, 1, 1))
		if got, ok := Total(l); got != want || ok != wantOK {
			t.Fatalf("Total(%v) is %d, %v, not %d, %v", l, got, ok, want, wantOK)
		}
	})
}

// P15.3: Split tells as many of MaxW as go into each edge, and what is left; its vertices stay as they stand.
func TestSplit(t *testing.T) {
	for _, c := range []struct{ l, want []api.Edge }{
		{nil, nil},
		{[]api.Edge{}, nil},
		{lists.Edges(0, 1, 0), lists.Edges(0, 1, 0)},
		{lists.Edges(0, 1, 1), lists.Edges(0, 1, 1)},
		{lists.Edges(0, 1, api.MaxW-1), lists.Edges(0, 1, api.MaxW-1)},
		{lists.Edges(0, 1, api.MaxW), lists.Edges(0, 1, api.MaxW)},
		{lists.Edges(0, 1, api.MaxW+1), lists.Edges(0, 1, api.MaxW, 0, 1, 1)},
		{lists.Edges(0, 1, 2*api.MaxW-1), lists.Edges(0, 1, api.MaxW, 0, 1, api.MaxW-1)},
		{lists.Edges(0, 1, 2*api.MaxW), lists.Edges(0, 1, api.MaxW, 0, 1, api.MaxW)},
		{lists.Edges(0, 1, 2*api.MaxW+5), lists.Edges(0, 1, api.MaxW, 0, 1, api.MaxW, 0, 1, 5)},
		{lists.Edges(3, 0, api.MaxW+2, 1, 1, 0, 0, 3, 7), lists.Edges(3, 0, api.MaxW, 3, 0, 2, 1, 1, 0, 0, 3, 7)},
		{lists.Edges(1, 0, 0, 1, 0, 0), lists.Edges(1, 0, 0, 1, 0, 0)},
		{lists.Edges(5, 5, 3*api.MaxW), lists.Edges(5, 5, api.MaxW, 5, 5, api.MaxW, 5, 5, api.MaxW)},
		{lists.Edges(-7, -9, api.MaxW+1, math.MaxInt, 0, 1), lists.Edges(-7, -9, api.MaxW, -7, -9, 1, math.MaxInt, 0, 1)},
	} {
		if got, ok := Split(c.l); !ok || !slices.Equal(got, c.want) {
			t.Errorf("Split(%v) is %v, %v, not %v", c.l, got, ok, c.want)
		}
	}
}

// P15.3: what goes into a weight, and what is left, told by division, near the brinks.
func TestSplitOfManyWeights(t *testing.T) {
	for times := int64(0); times < 40; times++ {
		for near := int64(-3); near <= 3; near++ {
			w := times*api.MaxW + near
			got, ok := Split([]api.Edge{edge(4, 2, w)})
			if w < 0 {
				if ok || len(got) != 0 {
					t.Fatalf("%d: %v", w, got)
				}
				continue
			}
			want := slices.Repeat(lists.Edges(4, 2, api.MaxW), int(w/api.MaxW))
			if w%api.MaxW > 0 || w == 0 {
				want = append(want, edge(4, 2, w%api.MaxW))
			}
			if !ok || !slices.Equal(got, want) {
				t.Fatalf("%d: %v, %v, not %v", w, got, ok, want)
			}
		}
	}
}

// P15.3: a weight below 0, at whichever place, is not split.
func TestSplitBelowNothing(t *testing.T) {
	for _, w := range []int64{-1, -2, -api.MaxW, -api.MaxW - 1, -1 << 32, lowest, lowest + 1} {
		for place := range 4 {
			l := lists.Edges(0, 1, 5, 0, 2, 2*api.MaxW, 0, 3, 0, 1, 1, 1)
			l[place].W = w
			if got, ok := Split(l); ok || len(got) != 0 {
				t.Errorf("%d at %d: %v, %v", w, place, got, ok)
			}
		}
	}
	// Nor if what comes ahead is as much as there may be, or more.
	for _, w := range []int64{api.MaxM * api.MaxW, highest} {
		if got, ok := Split(lists.Edges(0, 1, w, 0, 1, -1)); ok || len(got) != 0 {
			t.Errorf("-1 behind %d: %d edges, %v", w, len(got), ok)
		}
	}
}

// P15.3: as many as MaxM may be, not one more, be it of one edge or of many.
func TestSplitToTheMost(t *testing.T) {
	const most = api.MaxM * api.MaxW
	nothings := make([]api.Edge, api.MaxM+1)
	for _, c := range []struct {
		name string
		l    []api.Edge
		ok   bool
	}{
		{"one", lists.Edges(0, 1, most), true},
		{"one, a little less", lists.Edges(0, 1, most-1), true},
		{"one, a whole edge less", lists.Edges(0, 1, most-api.MaxW), true},
		{"one, a little more", lists.Edges(0, 1, most+1), false},
		{"one, a whole edge more", lists.Edges(0, 1, most+api.MaxW), false},
		{"one, far more", lists.Edges(0, 1, 1<<62), false},
		{"one, of the greatest number", lists.Edges(0, 1, highest), false},
		{"many of the greatest number", slices.Repeat(lists.Edges(0, 1, highest), 9), false},
		{"two", lists.Edges(0, 1, most-api.MaxW, 0, 1, api.MaxW), true},
		{"two, the other one a little more", lists.Edges(0, 1, most-api.MaxW, 0, 1, api.MaxW+1), false},
		{"two, the other one weighs nothing", lists.Edges(0, 1, most-api.MaxW, 0, 1, 0), true},
		{"all, and nothing more", lists.Edges(0, 1, most, 0, 1, 0), false},
		{"nothing, and all", lists.Edges(0, 1, 0, 0, 1, most), false},
		{"all, and a little more", lists.Edges(0, 1, most, 0, 1, 1), false},
		{"halves", lists.Edges(0, 1, most/2, 1, 2, most/2), true},
		{"halves, and nothing more", lists.Edges(0, 1, most/2, 1, 2, most/2, 0, 2, 0), false},
		{"many of nothing", nothings[:api.MaxM], true},
		{"many of nothing, one more", nothings, false},
		{"many of all kinds, to the most", append(lists.Edges(0, 1, api.MaxW+1), nothings[2:api.MaxM]...), true},
		{"many of all kinds, one more", append(lists.Edges(0, 1, api.MaxW+1), nothings[1:api.MaxM]...), false},
	} {
		got, ok := Split(c.l)
		if ok != c.ok || !ok && len(got) != 0 {
			t.Errorf("%s: %d edges, %v", c.name, len(got), ok)
		}
		want, _ := Total(c.l)
		if total, _ := Total(got); ok && (total != want || len(got) > api.MaxM) {
			t.Errorf("%s: %d edges, of %d together, not %d", c.name, len(got), total, want)
		}
	}
	if got, ok := Split(lists.Edges(3, 1, most)); !ok || !slices.Equal(got, slices.Repeat(lists.Edges(3, 1, api.MaxW), api.MaxM)) {
		t.Errorf("%d edges, %v", len(got), ok)
	}
}

// P15.4: what was split is merged to the same, and weighs the same; each edge of it may be.
func TestSplitIsMergedAgain(t *testing.T) {
	check := func(l []api.Edge) {
		t.Helper()
		split, ok := Split(l)
		if !ok {
			t.Fatalf("Split(%v) is none", l)
		}
		again, okAgain := Merge(split)
		want, wantOK := Merge(l)
		total, fits := Total(split)
		wantTotal, wantFits := Total(l)
		if okAgain != wantOK || !slices.Equal(again, want) || total != wantTotal || fits != wantFits {
			t.Fatalf("%v is split to %v, merged to %v, not %v", l, split, again, want)
		}
		for _, e := range split {
			if e.W < 0 || e.W > api.MaxW {
				t.Fatalf("%v is split to %v", l, split)
			}
		}
	}
	lists.Each(3, lists.Edges(0, 1, 0, 1, 0, api.MaxW, 0, 1, api.MaxW+1, 2, 0, 3*api.MaxW-1, 1, 1, api.MaxW+9, 2, 1, 4*api.MaxW), check)
	for seed := range uint64(20) {
		l := scatter.Edges(seed, 2+int(seed), 60)
		merged, _ := Merge(l)
		check(l)
		check(merged)
	}
}

// P15.4: what was merged is merged to the same again, and is in its normal form, without any that weighs nothing.
func TestMergedAgain(t *testing.T) {
	check := func(l []api.Edge) {
		t.Helper()
		merged, ok := Merge(l)
		if again, okAgain := Merge(merged); ok && (!okAgain || !slices.Equal(again, merged)) {
			t.Fatalf("%v, merged again: %v, %v", merged, again, okAgain)
		}
		for i, e := range merged {
			if e.U >= e.V || e.W == 0 || i > 0 && (merged[i-1].U > e.U || merged[i-1].U == e.U && merged[i-1].V >= e.V) {
				t.Fatalf("%v is merged to %v", l, merged)
			}
		}
	}
	lists.Each(4, lists.Edges(0, 1, 2, 1, 0, highest, 0, 1, -1, 2, 0, lowest, 1, 1, 4, 2, 1, -7), check)
	for seed := range uint64(20) {
		check(scatter.Edges(seed, 1+int(seed)*2, 200))
	}
}

// P15.4: edges that may be are merged to the same, in whatever order and either way round.
func TestMergedInAnyOrder(t *testing.T) {
	for seed := range uint64(25) {
		n := 1 + int(seed)*3
		l := scatter.Edges(seed, n, 150)
		if why, at := Checks(n, l); why != api.OK {
			t.Fatalf("%d at %d", why, at)
		}
		want, ok := Merge(l)
		if !ok {
			t.Fatalf("Merge(%v) is none", l)
		}
		backward := slices.Clone(l)
		slices.Reverse(backward)
		sorted := slices.Clone(l)
		slices.SortFunc(sorted, Cmp)
		for which, other := range [][]api.Edge{backward, sorted, turned(l, 1), turned(l, 2), turned(l, 3), shuffled(l, seed), turned(shuffled(l, seed+7), 2)} {
			if got, ok := Merge(other); !ok || !slices.Equal(got, want) {
				t.Fatalf("way %d of %v: %v, %v, not %v", which, l, got, ok, want)
			}
		}
	}
}

// P4: what lies behind a list's length is neither read nor written, and the list stays as it is.
func TestBehindTheLength(t *testing.T) {
	l := lists.Edges(2, 1, 3, 1, 2, 2*api.MaxW, 1, 0, 1, 9, 9, -1, 0, 1, highest)
	before := slices.Clone(l)
	why, at := Checks(3, l[:1])
	merged, ok := Merge(l[:3])
	if why != api.OK || at != 0 || !ok || !slices.Equal(merged, lists.Edges(0, 1, 1, 1, 2, 2*api.MaxW+3)) {
		t.Errorf("Checks %d, Merge %v", why, merged)
	}
	total, okTotal := Total(l[:3])
	split, okSplit := Split(l[:2])
	if total != 2*api.MaxW+4 || !okTotal || Find(l[:3], 9, 9) != -1 {
		t.Errorf("Total %d, Find %d", total, Find(l[:3], 9, 9))
	}
	if !okSplit || !slices.Equal(split, lists.Edges(2, 1, 3, 1, 2, api.MaxW, 1, 2, api.MaxW)) {
		t.Errorf("Split %v", split)
	}
	if !slices.Equal(l, before) {
		t.Errorf("%v became %v", before, l)
	}
}

// P4: what is answered is new memory, right up to its room, also where nothing need be changed.
func TestNewMemory(t *testing.T) {
	for _, n := range []int64{1, 2, 5, 20} {
		l := make([]api.Edge, 0, 2*n)
		for i := range n {
			l = append(l, edge(int(i), int(i+1), i+1)) // merged, and split, already
		}
		for _, how := range []func([]api.Edge) ([]api.Edge, bool){Merge, Split} {
			first, ok := how(l)
			if !ok || !slices.Equal(first, l) {
				t.Fatalf("%v, not %v", first, l)
			}
			first = first[:cap(first)]
			for i := range first {
				first[i] = edge(7, 8, 9)
			}
			whole := l[:cap(l)]
			for i, e := range whole {
				if want := edge(i, i+1, int64(i)+1); i < len(l) && e != want || i >= len(l) && e != (api.Edge{}) {
					t.Fatalf("place %d is %v", i, e)
				}
			}
			if second, ok := how(l); !ok || !slices.Equal(second, l) {
				t.Fatalf("another time %v, not %v", second, l)
			}
		}
	}
}
