package brute

import (
	"math"
	"math/bits"
	"slices"
	"testing"

	"strait/api"
	"strait/graphs"
	"strait/lists"
	"strait/net"
	"strait/scatter"
	"strait/side"
)

// Numbers that are no vertices of any graph.
var beyond = []int{math.MinInt, math.MinInt + 1, math.MinInt32, -1 << 32, -1<<32 + 1, -api.MaxN, -20, -2, -1, api.MaxN, api.MaxN + 1, 1 << 31, 1 << 32, 1<<32 + 1, math.MaxInt - 1, math.MaxInt}

// cuts are what all groups of n vertices weigh, by numbers whose bit v is set for each vertex v; none and all of them are no sides, and have no weight here.
type cuts struct {
	n       int
	weights []int64
}

// cutsOf adds for each group what each edge weighs that has just one end in it, as edges were told, not merged.
func cutsOf(n int, told []api.Edge) cuts {
	c := cuts{n, make([]int64, 1<<n)}
	for number := range c.weights {
		for _, e := range told {
			if number>>e.U&1 != number>>e.V&1 {
				c.weights[number] += e.W
			}
		}
	}
	return c
}

// which are the numbers of the sides that are asked for, rising.
func (c cuts) which(asked func(number int, weight int64) bool) []int {
	var l []int
	for number := 1; number < len(c.weights)-1; number++ {
		if asked(number, c.weights[number]) {
			l = append(l, number)
		}
	}
	return l
}

// weighing are the sides without the vertex 0 that weigh so much, in order.
func (c cuts) weighing(w int64) [][]int {
	var sides [][]int
	for _, number := range c.which(func(number int, weight int64) bool { return number&1 == 0 && weight == w }) {
		sides = append(sides, vertices(number))
	}
	return sides
}

// least is what the lightest side weighs.
func (c cuts) least() int64 {
	return slices.Min(c.weights[1 : len(c.weights)-1])
}

// pair is the least weight of a side with s and without t, and what is in all of these, by going over all sides with s and without t.
func (c cuts) pair(s, t int) api.Cut {
	least := int64(math.MaxInt64)
	between := func(number int, weight int64) bool { return number>>s&1 == 1 && number>>t&1 == 0 }
	for _, number := range c.which(between) {
		least = min(least, c.weights[number])
	}
	shared := len(c.weights) - 1
	for _, number := range c.which(between) {
		if c.weights[number] == least {
			shared &= number
		}
	}
	return api.Cut{W: least, Side: vertices(shared)}
}

// vertices are those whose bits are set, rising.
func vertices(number int) []int {
	var l []int
	for v := range bits.Len(uint(number)) {
		if number>>v&1 == 1 {
			l = append(l, v)
		}
	}
	return l
}

// sameCut tells whether both weigh the same and have the same side.
func sameCut(a, b api.Cut) bool {
	return a.W == b.W && slices.Equal(a.Side, b.Side)
}

// sameLists tells whether both are the same lists in the same order.
func sameLists(a, b [][]int) bool {
	return slices.EqualFunc(a, b, slices.Equal[[]int])
}

// checkGraph holds all that is told of the graph of n vertices, at least 2, and these edges against what all its groups weigh.
func checkGraph(t *testing.T, n int, told []api.Edge) {
	t.Helper()
	g, c := graphs.Of(t, n, told), cutsOf(n, told)
	checkLeast(t, g, c)
	checkAll(t, g, c)
	checkPairs(t, g, c)
}

// checkLeast holds Least and Count against what all groups weigh.
func checkLeast(t *testing.T, g *net.Net, c cuts) {
	t.Helper()
	sides := c.weighing(c.least())
	want := api.Cut{W: c.least(), Side: sides[0]}
	if got, why := Least(g); !sameCut(got, want) || why != api.OK {
		t.Fatalf("Least(%d, %v) is %v, %d, not %v", c.n, g.Edges(), got, why, want)
	}
	if got, why := Count(g); got != len(sides) || why != api.OK {
		t.Fatalf("Count(%d, %v) is %d, %d, not %d", c.n, g.Edges(), got, why, len(sides))
	}
}

// checkAll holds All of some weights that sides have, of those just beside and of others against what all groups weigh.
func checkAll(t *testing.T, g *net.Net, c cuts) {
	t.Helper()
	asked := []int64{0, 1, -1, c.least(), slices.Max(c.weights), math.MinInt64, math.MaxInt64}
	for i := range 4 {
		w := c.weights[i*len(c.weights)/4]
		asked = append(asked, w, w-1, w+1, -w, w+1<<32)
	}
	for _, w := range asked {
		if got, why := All(g, w); !sameLists(got, c.weighing(w)) || why != api.OK {
			t.Fatalf("All(%d, %v, %d) is %v, %d, not %v", c.n, g.Edges(), w, got, why, c.weighing(w))
		}
	}
}

// checkPairs holds Pair of all pairs, and Matrix, against what all groups weigh.
func checkPairs(t *testing.T, g *net.Net, c cuts) {
	t.Helper()
	rows, why := Matrix(g)
	if len(rows) != c.n || why != api.OK {
		t.Fatalf("Matrix(%d, %v) is %v, %d", c.n, g.Edges(), rows, why)
	}
	for u := range c.n {
		if len(rows[u]) != c.n || rows[u][u] != 0 {
			t.Fatalf("Matrix(%d, %v) is %v", c.n, g.Edges(), rows)
		}
		for v := range c.n {
			if u == v {
				continue
			}
			want := c.pair(u, v)
			if got, why := Pair(g, u, v); !sameCut(got, want) || why != api.OK {
				t.Fatalf("Pair(%d, %v, %d, %d) is %v, %d, not %v", c.n, g.Edges(), u, v, got, why, want)
			}
			if rows[u][v] != want.W {
				t.Fatalf("Matrix(%d, %v) is %v; %d and %d have %d", c.n, g.Edges(), rows, u, v, want.W)
			}
		}
	}
}

// checkNone holds what is told of a graph that has too few vertices, or too many, against an error.
func checkNone(t *testing.T, g *net.Net, why api.Errno) {
	t.Helper()
	if c, got := Least(g); !sameCut(c, api.Cut{}) || got != why {
		t.Fatalf("Least of %d vertices is %v, %d, not %d", g.N(), c, got, why)
	}
	for _, w := range []int64{0, 1, -1, g.Total(), math.MinInt64, math.MaxInt64} {
		if l, got := All(g, w); len(l) != 0 || got != why {
			t.Fatalf("All of %d vertices is %v, %d, not %d", g.N(), l, got, why)
		}
	}
	if many, got := Count(g); many != 0 || got != why {
		t.Fatalf("Count of %d vertices is %d, %d, not %d", g.N(), many, got, why)
	}
}

// checkNoPair holds what Pair tells of u and v, and of v and u, against an error.
func checkNoPair(t *testing.T, g *net.Net, u, v int, why api.Errno) {
	t.Helper()
	for _, p := range [][2]int{{u, v}, {v, u}} {
		if c, got := Pair(g, p[0], p[1]); !sameCut(c, api.Cut{}) || got != why {
			t.Fatalf("Pair of %d and %d of %d vertices is %v, %d, not %d", p[0], p[1], g.N(), c, got, why)
		}
	}
}

// light are m edges of n vertices, which weigh less than so much, so that many sides weigh the same.
func light(seed uint64, n, m, end int) []api.Edge {
	l := scatter.Edges(seed, n, m)
	for i, w := range scatter.Below(seed+7, m, end) {
		l[i].W = int64(w)
	}
	return l
}

// P22.1: the chapter's example.
func TestExample(t *testing.T) {
	g := graphs.Of(t, 3, lists.Edges(0, 1, 1, 1, 2, 1, 2, 0, 1))
	if c, why := Least(g); c.W != 2 || why != api.OK {
		t.Errorf("%v, %d", c, why)
	}
	if many, why := Count(g); many != 3 || why != api.OK {
		t.Errorf("%d, %d", many, why)
	}
	if l, why := All(g, 2); !sameLists(l, [][]int{{1}, {2}, {1, 2}}) || why != api.OK {
		t.Errorf("%v, %d", l, why)
	}
}

// P22.1: the least sides of graphs that are written down, in order.
func TestWritten(t *testing.T) {
	for _, c := range []struct {
		n      int
		told   []api.Edge
		weight int64
		sides  [][]int
	}{
		{2, nil, 0, [][]int{{1}}},
		{2, lists.Edges(1, 0, 5, 0, 0, 9), 5, [][]int{{1}}},
		{2, lists.Edges(0, 1, 1<<31, 1, 0, 1<<31), 1 << 32, [][]int{{1}}},
		{3, nil, 0, [][]int{{1}, {2}, {1, 2}}},
		{3, lists.Edges(1, 2, 1), 0, [][]int{{1, 2}}},
		{3, lists.Edges(0, 1, 2, 1, 2, 3), 2, [][]int{{1, 2}}},
		{4, lists.Edges(0, 1, 3, 1, 2, 1, 2, 3, 3, 3, 0, 1), 2, [][]int{{2, 3}}},
		{4, lists.Edges(0, 1, 1, 1, 2, 1, 2, 3, 1, 3, 0, 1), 2, [][]int{{1}, {2}, {1, 2}, {3}, {2, 3}, {1, 2, 3}}},
		{4, lists.Edges(0, 1, 2, 0, 2, 2, 0, 3, 2), 2, [][]int{{1}, {2}, {3}}},
		{4, lists.Edges(3, 1, 4, 0, 2, 4), 0, [][]int{{1, 3}}},
		// Two triangles that one light edge joins.
		{6, lists.Edges(0, 2, 4, 2, 4, 4, 4, 0, 4, 1, 3, 4, 3, 5, 4, 5, 1, 4, 2, 3, 1), 1, [][]int{{1, 3, 5}}},
	} {
		g := graphs.Of(t, c.n, c.told)
		if got, why := Least(g); !sameCut(got, api.Cut{W: c.weight, Side: c.sides[0]}) || why != api.OK {
			t.Errorf("Least of %v: %v, %d", c.told, got, why)
		}
		if got, why := All(g, c.weight); !sameLists(got, c.sides) || why != api.OK {
			t.Errorf("All of %v: %v, %d", c.told, got, why)
		}
		if got, why := Count(g); got != len(c.sides) || why != api.OK {
			t.Errorf("Count of %v: %d, %d", c.told, got, why)
		}
		checkGraph(t, c.n, c.told)
	}
}

// P22.2: the pairs of graphs that are written down.
func TestWrittenPairs(t *testing.T) {
	// A way 0 1 2 3 of 5, 2, 5: the lightest edge between both is what it weighs; of 1 and 2 it is one side alone.
	way := graphs.Of(t, 4, lists.Edges(0, 1, 5, 1, 2, 2, 2, 3, 5))
	// All edges of the ring weigh the same, so many sides between both weigh the least; s alone is in all of them.
	ring := graphs.Of(t, 4, lists.Edges(0, 1, 1, 1, 2, 1, 2, 3, 1, 3, 0, 1))
	// 0 and 2, 1 and 4 hang together, 3 is alone.
	parts := graphs.Of(t, 5, lists.Edges(2, 0, 7, 4, 1, 8))
	for _, c := range []struct {
		g    *net.Net
		s, t int
		w    int64
		side []int
	}{
		{way, 0, 1, 5, []int{0}},
		{way, 1, 0, 5, []int{1, 2, 3}},
		{way, 0, 3, 2, []int{0, 1}},
		{way, 3, 0, 2, []int{2, 3}},
		{way, 1, 2, 2, []int{0, 1}},
		{ring, 0, 2, 2, []int{0}},
		{ring, 2, 0, 2, []int{2}},
		{ring, 3, 1, 2, []int{3}},
		{parts, 0, 2, 7, []int{0}},
		{parts, 0, 1, 0, []int{0, 2}},
		{parts, 1, 0, 0, []int{1, 4}},
		{parts, 3, 4, 0, []int{3}},
		{parts, 4, 3, 0, []int{1, 4}},
	} {
		if got, why := Pair(c.g, c.s, c.t); !sameCut(got, api.Cut{W: c.w, Side: c.side}) || why != api.OK {
			t.Errorf("Pair of %d and %d of %v: %v, %d", c.s, c.t, c.g.Edges(), got, why)
		}
	}
	rows, why := Matrix(parts)
	want := [][]int64{{0, 0, 7, 0, 0}, {0, 0, 0, 0, 8}, {7, 0, 0, 0, 0}, {0, 0, 0, 0, 0}, {0, 8, 0, 0, 0}}
	if !slices.EqualFunc(rows, want, slices.Equal[[]int64]) || why != api.OK {
		t.Errorf("Matrix: %v, %d", rows, why)
	}
}

// P22.1, P22.2: all graphs of up to four vertices with edges of 0, 1 and 2, and all of five with edges of 0 and 1.
func TestAllGraphs(t *testing.T) {
	for _, c := range []struct{ n, end int }{{2, 6}, {3, 4}, {4, 3}, {5, 2}} {
		pairs := c.n * (c.n - 1) / 2
		all := 1
		for range pairs {
			all *= c.end
		}
		for number := range all {
			var told []api.Edge
			for u := range c.n {
				for v := range u {
					told = append(told, api.Edge{U: u, V: v, W: int64(number % c.end)})
					number /= c.end
				}
			}
			checkGraph(t, c.n, told)
		}
	}
}

// P22.1, P22.2: the graphs that short lists of edges make: what is told twice is one edge; what leads from a vertex to itself, or weighs nothing, is none.
func TestShortLists(t *testing.T) {
	lists.Each(3, lists.Edges(0, 1, 1, 2, 1, 1<<31, 1, 1, 5, 0, 3, 1, 2, 0, 2, 1, 3, 0, 2, 3, 7), func(l []api.Edge) {
		for n := 4; n < 6; n++ {
			checkGraph(t, n, l)
		}
	})
}

// P22.1, P22.2: graphs of few and of many edges, light ones, of which many sides weigh the same, and heavy ones.
func TestManyEdges(t *testing.T) {
	for n := 2; n < 11; n++ {
		for seed := range uint64(3) {
			for _, m := range []int{1, n - 1, 2 * n, 5 * n, 200} {
				checkGraph(t, n, scatter.Edges(seed, n, m))
				checkGraph(t, n, light(seed, n, m, 2))
				checkGraph(t, n, light(seed, n, m, 4))
			}
		}
	}
}

// P22.1, P22.2: as many vertices as may be gone through, and not many less.
func TestManyVertices(t *testing.T) {
	for n := 13; n <= api.MaxAll; n++ {
		for seed, told := range [][]api.Edge{light(uint64(n), n, 2*n, 3), scatter.Edges(uint64(n), n, 3*n)} {
			g, c := graphs.Of(t, n, told), cutsOf(n, told)
			checkLeast(t, g, c)
			checkAll(t, g, c)
			rows, why := Matrix(g)
			if len(rows) != n || why != api.OK {
				t.Fatalf("Matrix of %d vertices: %v, %d", n, rows, why)
			}
			for _, p := range [][2]int{{0, n - 1}, {n - 1, 0}, {seed + 1, n / 2}, {n - 1, n - 2}} {
				want := c.pair(p[0], p[1])
				if got, why := Pair(g, p[0], p[1]); !sameCut(got, want) || why != api.OK || rows[p[0]][p[1]] != want.W {
					t.Fatalf("Pair of %d and %d of %d vertices: %v, %d, in Matrix %d, not %v", p[0], p[1], n, got, why, rows[p[0]][p[1]], want)
				}
			}
		}
	}
}

// P22.1, P22.2: as many vertices as may be gone through, without edges: all sides weigh nothing.
func TestAllSides(t *testing.T) {
	g := graphs.Of(t, api.MaxAll, nil)
	sides, why := All(g, 0)
	if len(sides) != 1<<19-1 || why != api.OK {
		t.Fatalf("%d sides, %d", len(sides), why)
	}
	for i, l := range sides {
		if !slices.Equal(l, vertices((i+1)<<1)) {
			t.Fatalf("the side %d is %v", i, l)
		}
	}
	if many, why := Count(g); many != len(sides) || why != api.OK {
		t.Errorf("%d, %d", many, why)
	}
	if c, why := Least(g); !sameCut(c, api.Cut{Side: []int{1}}) || why != api.OK {
		t.Errorf("%v, %d", c, why)
	}
	if c, why := Pair(g, 19, 3); !sameCut(c, api.Cut{Side: []int{19}}) || why != api.OK {
		t.Errorf("%v, %d", c, why)
	}
	for _, w := range []int64{-1, 1, math.MinInt64, math.MaxInt64} {
		if l, why := All(g, w); len(l) != 0 || why != api.OK {
			t.Errorf("%d sides weigh %d, %d", len(l), w, why)
		}
	}
}

// P22.1, P22.2: what holds by one lightest edge, of as many vertices as may be gone through: just one side weighs it.
func TestOneSide(t *testing.T) {
	const n = api.MaxAll
	for _, in := range [][]int{{1}, {19}, {2, 3, 5, 7, 11, 13, 17, 19}, {10, 11, 12, 13, 14, 15, 16, 17, 18, 19}} {
		var told []api.Edge
		last := [2]int{-1, -1}
		for v := range n {
			part := 0
			if slices.Contains(in, v) {
				part = 1
			}
			if last[part] >= 0 {
				told = append(told, api.Edge{U: v, V: last[part], W: 10})
			}
			last[part] = v
		}
		told = append(told, api.Edge{U: in[0], V: 0, W: 3})
		g := graphs.Of(t, n, told)
		if c, why := Least(g); !sameCut(c, api.Cut{W: 3, Side: in}) || why != api.OK {
			t.Errorf("%v, %d, not %v", c, why, in)
		}
		if l, why := All(g, 3); !sameLists(l, [][]int{in}) || why != api.OK {
			t.Errorf("%v, %d, not %v", l, why, in)
		}
		if many, why := Count(g); many != 1 || why != api.OK {
			t.Errorf("%d, %d", many, why)
		}
		if c, why := Pair(g, in[0], 0); !sameCut(c, api.Cut{W: 3, Side: in}) || why != api.OK {
			t.Errorf("%v, %d, not %v", c, why, in)
		}
	}
}

// P22.1, P22.2: as many edges as there may be, each as heavy as may be: of two vertices, of all pairs of few and of many, and of one vertex and all others.
func TestHeaviest(t *testing.T) {
	heavy := slices.Repeat(lists.Edges(3, 1, api.MaxW), api.MaxM)
	two := graphs.Of(t, 4, heavy)
	if c, why := Pair(two, 1, 3); !sameCut(c, api.Cut{W: 1 << 51, Side: []int{1}}) || why != api.OK {
		t.Errorf("%v, %d", c, why)
	}
	if l, why := All(two, 1<<51); !sameLists(l, [][]int{{1}, {1, 2}, {3}, {2, 3}}) || why != api.OK {
		t.Errorf("%v, %d", l, why)
	}
	for i := range heavy {
		heavy[i].U, heavy[i].V = 0, 1+i%19
	}
	star := graphs.Of(t, 20, heavy)
	if l, why := All(star, 1<<51); len(l) != 1 || len(l[0]) != 19 || why != api.OK {
		t.Errorf("%v, %d", l, why)
	}
	// 19 does not divide 2^20, so the last vertices have one edge less than the first ones.
	each := int64(api.MaxM / 19)
	if c, why := Least(star); c.W != each*api.MaxW || len(c.Side) != 1 || why != api.OK {
		t.Errorf("%v, %d", c, why)
	}
	rows, why := Matrix(star)
	if why != api.OK || rows[0][1] != (each+1)*api.MaxW || rows[19][18] != each*api.MaxW {
		t.Errorf("%v, %d", rows, why)
	}
}

// P22.1, P22.2, P7: of too few vertices, a nil graph among them, there are no sides. Matrix has as many lists as there are vertices, of these too.
func TestTooSmall(t *testing.T) {
	for _, g := range []*net.Net{nil, graphs.Of(t, 0, nil)} {
		checkNone(t, g, api.ErrTooSmall)
		if rows, why := Matrix(g); len(rows) != 0 || why != api.OK {
			t.Errorf("Matrix: %v, %d", rows, why)
		}
		for _, v := range append(slices.Clone(beyond), 0, 1) {
			checkNoPair(t, g, 0, v, api.ErrVertex)
			checkNoPair(t, g, v, v, api.ErrVertex)
		}
	}
	for _, told := range [][]api.Edge{nil, lists.Edges(0, 0, 5)} {
		one := graphs.Of(t, 1, told)
		checkNone(t, one, api.ErrTooSmall)
		if rows, why := Matrix(one); len(rows) != 1 || !slices.Equal(rows[0], []int64{0}) || why != api.OK {
			t.Errorf("Matrix: %v, %d", rows, why)
		}
		checkNoPair(t, one, 0, 0, api.ErrSame)
		checkNoPair(t, one, 0, 1, api.ErrVertex)
		checkNoPair(t, one, 1, 1, api.ErrVertex)
	}
}

// P22.1, P22.2, P2: of more vertices than may be gone through there is ErrLong, but of Pair what is wrong with s and t stands ahead.
func TestTooMany(t *testing.T) {
	for _, n := range []int{api.MaxAll + 1, api.MaxAll + 2, 31, 32, 33, 63, 64, 65, 256, api.MaxN} {
		for _, told := range [][]api.Edge{nil, scatter.Edges(3, n, 50)} {
			g := graphs.Of(t, n, told)
			checkNone(t, g, api.ErrLong)
			if rows, why := Matrix(g); len(rows) != 0 || why != api.ErrLong {
				t.Errorf("Matrix of %d vertices: %d rows, %d", n, len(rows), why)
			}
			checkNoPair(t, g, 0, 1, api.ErrLong)
			checkNoPair(t, g, n-1, 0, api.ErrLong)
			checkNoPair(t, g, n-2, n-1, api.ErrLong)
			for _, v := range []int{0, 1, n - 1} {
				checkNoPair(t, g, v, v, api.ErrSame)
			}
			checkWrongVertices(t, g)
		}
	}
}

// checkWrongVertices asks Pair for vertices that g does not have, alone, twice, and with ones it has.
func checkWrongVertices(t *testing.T, g *net.Net) {
	t.Helper()
	n := g.N()
	for _, v := range slices.Concat(beyond, []int{n, n + 1, -n, n + 1<<32, 64, 65}) {
		if v >= 0 && v < n {
			continue
		}
		for _, u := range []int{0, 1, n - 1, n, v, v - 1} {
			checkNoPair(t, g, u, v, api.ErrVertex)
		}
	}
}

// P22.2, P2: vertices that there are not, and the same one twice.
func TestErrorsOfPairs(t *testing.T) {
	for _, n := range []int{2, 3, 7, 19, 20} {
		g := graphs.Of(t, n, scatter.Edges(5, n, 3*n))
		checkWrongVertices(t, g)
		for v := range n {
			checkNoPair(t, g, v, v, api.ErrSame)
		}
	}
}

// P22.3: what is in all least sides is a least side, and the least of all cuts is the least of all pairs', by what side says they weigh.
func TestWhatFollows(t *testing.T) {
	for n := 2; n < 12; n++ {
		for seed := range uint64(4) {
			g := graphs.Of(t, n, light(seed, n, 3*n, 4))
			all := int64(math.MaxInt64)
			for u := range n {
				for v := range n {
					if u == v {
						continue
					}
					c, why := Pair(g, u, v)
					if why != api.OK || !side.Right(g, c) || !side.Parts(n, c.Side, u, v) || !slices.Contains(c.Side, u) {
						t.Fatalf("Pair of %d and %d of %v is %v, %d", u, v, g.Edges(), c, why)
					}
					all = min(all, c.W)
				}
			}
			checkFollows(t, g, all)
		}
	}
}

// checkFollows holds Least, Count and All against the least of all pairs, and against what side says that sides weigh.
func checkFollows(t *testing.T, g *net.Net, all int64) {
	t.Helper()
	least, why := Least(g)
	if least.W != all || why != api.OK || !side.Right(g, least) {
		t.Fatalf("Least of %v is %v, %d, of all pairs %d", g.Edges(), least, why, all)
	}
	sides, _ := All(g, all)
	if many, _ := Count(g); many != len(sides) || !slices.Equal(sides[0], least.Side) {
		t.Fatalf("of %v %v weigh %d, Count is %d, Least %v", g.Edges(), sides, all, many, least)
	}
	for _, l := range sides {
		if normal, why := side.Normal(g.N(), l); !slices.Equal(normal, l) || why != api.OK || !side.Right(g, api.Cut{W: all, Side: l}) {
			t.Fatalf("of %v %v does not weigh %d", g.Edges(), l, all)
		}
	}
}

// P22.3: between two vertices no less holds than between each of them and a third one, where less does.
func TestThree(t *testing.T) {
	for n := 3; n < 13; n++ {
		rows, why := Matrix(graphs.Of(t, n, light(uint64(n), n, 4*n, 9)))
		if why != api.OK {
			t.Fatal(why)
		}
		for u := range n {
			for v := range n {
				for x := range n {
					if u != v && v != x && u != x && rows[u][x] < min(rows[u][v], rows[v][x]) {
						t.Fatalf("%v: %d, %d and %d", rows, u, v, x)
					}
				}
			}
		}
	}
}

// Each side that is handed on differs from the one ahead by one vertex, the first one from none, and each comes once, with what it weighs.
func TestThrough(t *testing.T) {
	for n := range 14 {
		told := scatter.Edges(uint64(n), max(n, 1), 2*n)
		g, c := graphs.Of(t, n, told), cutsOf(n, told)
		var met []int
		ahead := group(0)
		through(g, func(now group, weight int64) {
			if bits.OnesCount32(uint32(now^ahead)) != 1 || weight != c.weights[now] {
				t.Fatalf("%d vertices: %b after %b weighs %d", n, now, ahead, weight)
			}
			ahead = now
			met = append(met, int(now))
		})
		slices.Sort(met)
		if want := c.which(func(number int, weight int64) bool { return number&1 == 0 }); !slices.Equal(met, want) {
			t.Fatalf("%d vertices: %b", n, met)
		}
	}
}

// P4: two answers share no memory, and no two lists of one answer do, up to their capacities.
func TestAnswersAreNewMemory(t *testing.T) {
	const n = 7
	told := light(4, n, 20, 2)
	g, twin := graphs.Of(t, n, told), graphs.Of(t, n, told)
	weight := cutsOf(n, told).least() + 1
	for i := range 3 * n {
		sides, _ := All(g, weight)
		rows, _ := Matrix(g)
		least, _ := Least(g)
		pair, _ := Pair(g, i%n, (i+1)%n)
		wantSides, wantRows := cloned(sides), cloned(rows)
		if len(sides) < 3 {
			t.Fatalf("%v weigh %d", sides, weight)
		}
		lists.Spoil(sides[i%len(sides)])
		lists.Spoil(rows[i%n])
		lists.Spoil(least.Side)
		lists.Spoil(pair.Side)
		for at := range sides {
			if at != i%len(sides) && !slices.Equal(sides[at], wantSides[at]) {
				t.Fatalf("%v became %v", wantSides[at], sides[at])
			}
		}
		for at := range rows {
			if at != i%n && !slices.Equal(rows[at], wantRows[at]) {
				t.Fatalf("%v became %v", wantRows[at], rows[at])
			}
		}
		checkGraph(t, n, told)
		checkPairs(t, g, cutsOf(n, told))
	}
	if !net.Same(g, twin) {
		t.Error("another graph")
	}
}

// cloned are copies of all the lists.
func cloned[T any](all [][]T) [][]T {
	var l [][]T
	for _, x := range all {
		l = append(l, slices.Clone(x))
	}
	return l
}

// P5: what is told is the same each time, whatever was asked ahead, and of whatever graph.
func TestAgain(t *testing.T) {
	told := light(6, 8, 20, 3)
	g, twin, c := graphs.Of(t, 8, told), graphs.Of(t, 8, told), cutsOf(8, told)
	for seed := range uint64(10) {
		for _, one := range []*net.Net{g, twin, g} {
			checkLeast(t, one, c)
			checkAll(t, one, c)
			checkPairs(t, one, c)
		}
		checkNoPair(t, g, 0, 8, api.ErrVertex)
		checkNone(t, nil, api.ErrTooSmall)
		checkGraph(t, 5, scatter.Edges(seed, 5, 9))
	}
}
