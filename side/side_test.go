package side

import (
	"math"
	"slices"
	"testing"

	"strait/api"
	"strait/graphs"
	"strait/lists"
	"strait/net"
	"strait/scatter"
)

// Numbers that are no vertices of any graph.
var beyond = []int{math.MinInt, math.MinInt + 1, math.MinInt32, -1 << 32, -1<<32 + 1, -api.MaxN, -64, -2, -1, api.MaxN, api.MaxN + 1, 1 << 31, 1 << 32, 1<<32 + 1, math.MaxInt - 1, math.MaxInt}

// members say of each vertex whether it is in a list: a side told without any order.
type members []bool

// some are the members of n vertices whose bits are set.
func some(n int, bits uint) members {
	in := make(members, n)
	for v := range in {
		in[v] = bits>>v&1 == 1
	}
	return in
}

// vertices are those that are members, or those that are not, rising.
func (in members) vertices(are bool) []int {
	var l []int
	for v, is := range in {
		if is == are {
			l = append(l, v)
		}
	}
	return l
}

// crosses tells whether e has just one end that is a member.
func (in members) crosses(e api.Edge) bool {
	return in[e.U] != in[e.V]
}

// weigh adds what each edge weighs that crosses, as edges were told, not merged.
func (in members) weigh(told []api.Edge) int64 {
	weight := int64(0)
	for _, e := range told {
		if in.crosses(e) {
			weight += e.W
		}
	}
	return weight
}

// checkSide holds all that is told of a side of g, which was told by these edges, against what its members say.
func checkSide(t *testing.T, g *net.Net, told []api.Edge, in members) {
	t.Helper()
	n, side := len(in), in.vertices(true)
	if got := Check(n, side); got != api.OK {
		t.Fatalf("Check(%d, %v) is %d", n, side, got)
	}
	weight := in.weigh(told)
	if got, why := Weight(g, side); got != weight || why != api.OK {
		t.Fatalf("Weight(%v, %v) is %d, %d, not %d", g.Edges(), side, got, why, weight)
	}
	var numbers []int
	for i, e := range g.Edges() {
		if in.crosses(e) {
			numbers = append(numbers, i)
		}
	}
	if got, why := Crossing(g, side); !slices.Equal(got, numbers) || why != api.OK {
		t.Fatalf("Crossing(%v, %v) is %v, %d, not %v", g.Edges(), side, got, why, numbers)
	}
	if got, why := Cut(g, side); got.W != weight || !slices.Equal(got.Side, side) || why != api.OK {
		t.Fatalf("Cut(%v, %v) is %v, %d, not of %d", g.Edges(), side, got, why, weight)
	}
	if got, why := Normal(n, side); !slices.Equal(got, in.vertices(!in[0])) || why != api.OK {
		t.Fatalf("Normal(%d, %v) is %v, %d", n, side, got, why)
	}
	checkRight(t, g, side, weight)
}

// checkRight asks of the weight and of other ones whether they are what the side weighs.
func checkRight(t *testing.T, g *net.Net, side []int, weight int64) {
	t.Helper()
	if !Right(g, api.Cut{W: weight, Side: side}) {
		t.Fatalf("Right(%v, %v) of %d is false", g.Edges(), side, weight)
	}
	for _, other := range []int64{0, 1, -1, -weight, weight - 1, weight + 1, 2 * weight, weight + 1<<32, math.MinInt64, math.MaxInt64} {
		if other != weight && Right(g, api.Cut{W: other, Side: side}) {
			t.Fatalf("Right(%v, %v) of %d is true, but it weighs %d", g.Edges(), side, other, weight)
		}
	}
}

// checkParts asks of all pairs of vertices, and of those with what is no vertex, whether the side parts them.
func checkParts(t *testing.T, in members) {
	t.Helper()
	n, side := len(in), in.vertices(true)
	for u := range n {
		for v := range n {
			if got := Parts(n, side, u, v); got != (in[u] != in[v]) {
				t.Fatalf("Parts(%d, %v, %d, %d) is %v", n, side, u, v, got)
			}
		}
		for _, v := range slices.Concat(beyond, []int{-n, n, n + 1, n + 64, u - n, u + n, u + 1<<32}) {
			if (v < 0 || v >= n) && (Parts(n, side, u, v) || Parts(n, side, v, u) || Parts(n, side, v, v)) {
				t.Fatalf("Parts(%d, %v, %d, %d)", n, side, u, v)
			}
		}
	}
}

// checkNone holds what is told of a list that is no side of n vertices, and none of g, which has as many, against an error.
func checkNone(t *testing.T, n int, g *net.Net, side []int, why api.Errno) {
	t.Helper()
	if got := Check(n, side); got != why {
		t.Fatalf("Check(%d, %v) is %d, not %d", n, side, got, why)
	}
	if l, got := Normal(n, side); len(l) != 0 || got != why {
		t.Fatalf("Normal(%d, %v) is %v, %d, not %d", n, side, l, got, why)
	}
	if Parts(n, side, 0, 1) || Parts(n, side, 1, 0) || Parts(n, side, 0, n-1) || Parts(n, side, n-1, n) {
		t.Fatalf("Parts(%d, %v)", n, side)
	}
	if g.N() != n {
		return
	}
	if w, got := Weight(g, side); w != 0 || got != why {
		t.Fatalf("Weight(%v, %v) is %d, %d, not %d", g.Edges(), side, w, got, why)
	}
	if l, got := Crossing(g, side); len(l) != 0 || got != why {
		t.Fatalf("Crossing(%v, %v) is %v, %d, not %d", g.Edges(), side, l, got, why)
	}
	if c, got := Cut(g, side); c.W != 0 || len(c.Side) != 0 || got != why {
		t.Fatalf("Cut(%v, %v) is %v, %d, not %d", g.Edges(), side, c, got, why)
	}
	for _, w := range []int64{0, 1, -1, g.Total(), math.MinInt64, math.MaxInt64} {
		if Right(g, api.Cut{W: w, Side: side}) {
			t.Fatalf("Right(%v, %v) of %d is true", g.Edges(), side, w)
		}
	}
}

// checkGraph holds all that is told of all lists of g's vertices that rise: those that are sides, and both that are none.
func checkGraph(t *testing.T, n int, told []api.Edge) {
	t.Helper()
	g := graphs.Of(t, n, told)
	all := uint(1)<<n - 1
	for bits := range all + 1 {
		in := some(n, bits)
		if bits == 0 || bits == all {
			checkNone(t, n, g, in.vertices(true), api.ErrCut)
		} else {
			checkSide(t, g, told, in)
		}
	}
}

// P21.1: the chapter's example.
func TestExample(t *testing.T) {
	g := graphs.Of(t, 3, lists.Edges(0, 1, 2, 1, 2, 3))
	if got, why := Weight(g, []int{1}); got != 5 || why != api.OK {
		t.Errorf("%d, %d", got, why)
	}
}

// P21.1, P21.2: sides of a graph that is written down.
func TestWritten(t *testing.T) {
	// In order its edges are 0 1 of 4, 0 3 of 7, 1 3 of 1, 2 3 of 9 and 2 5 of 2^31 + 1; 4 is alone.
	told := lists.Edges(3, 2, 9, 3, 0, 2, 2, 2, 9, 1, 0, 4, 0, 3, 5, 4, 1, 0, 3, 1, 1, 5, 2, 1<<31, 2, 5, 1)
	g := graphs.Of(t, 6, told)
	for _, c := range []struct {
		side, normal, numbers []int
		weight                int64
	}{
		{[]int{0}, []int{1, 2, 3, 4, 5}, []int{0, 1}, 11},
		{[]int{4}, []int{4}, nil, 0},
		{[]int{5}, []int{5}, []int{4}, 1<<31 + 1},
		{[]int{0, 1}, []int{2, 3, 4, 5}, []int{1, 2}, 8},
		{[]int{2, 5}, []int{2, 5}, []int{3}, 9},
		{[]int{0, 1, 3}, []int{2, 4, 5}, []int{3}, 9},
		{[]int{0, 2, 4}, []int{1, 3, 5}, []int{0, 1, 3, 4}, 1<<31 + 21},
		{[]int{0, 1, 2, 3, 5}, []int{4}, nil, 0},
		{[]int{1, 2, 3, 4, 5}, []int{1, 2, 3, 4, 5}, []int{0, 1}, 11},
	} {
		if got, why := Weight(g, c.side); got != c.weight || why != api.OK {
			t.Errorf("Weight of %v: %d, %d", c.side, got, why)
		}
		if got, why := Crossing(g, c.side); !slices.Equal(got, c.numbers) || why != api.OK {
			t.Errorf("Crossing of %v: %v, %d", c.side, got, why)
		}
		if got, why := Normal(6, c.side); !slices.Equal(got, c.normal) || why != api.OK {
			t.Errorf("Normal of %v: %v, %d", c.side, got, why)
		}
		if got, why := Cut(g, c.side); got.W != c.weight || !slices.Equal(got.Side, c.side) || why != api.OK {
			t.Errorf("Cut of %v: %v, %d", c.side, got, why)
		}
		checkRight(t, g, c.side, c.weight)
	}
	if side := []int{1, 3, 4}; !Parts(6, side, 0, 1) || !Parts(6, side, 4, 5) || Parts(6, side, 1, 4) || Parts(6, side, 0, 2) || Parts(6, side, 3, 3) || Parts(6, side, 1, 6) || Parts(6, side, -1, 1) {
		t.Error("Parts")
	}
	checkGraph(t, 6, told)
}

// P21.1, P21.2: all sides of the graphs that short lists of edges make: what is told twice is one edge; what leads from a vertex to itself, or weighs nothing, is none.
func TestShortLists(t *testing.T) {
	lists.Each(3, lists.Edges(0, 1, 1, 2, 1, 1<<31, 1, 1, 5, 0, 3, 1, 2, 0, 2, 1, 3, 0, 2, 3, 7), func(l []api.Edge) {
		for n := 4; n < 6; n++ {
			checkGraph(t, n, l)
		}
	})
}

// P21.2: what all sides of few vertices part.
func TestPartsOfAllSides(t *testing.T) {
	for n := 2; n < 8; n++ {
		for bits := uint(1); bits < 1<<n-1; bits++ {
			checkParts(t, some(n, bits))
		}
	}
}

// P21.1, P21.2, P3: all short lists of numbers that are vertices or just beyond: those that are sides are those that rising vertices make, of the others an empty list and a full one have an error of their own.
func TestErrorsOfShortLists(t *testing.T) {
	for n := range 5 {
		told := scatter.Edges(uint64(n), max(n, 1), 3*n)
		g := graphs.Of(t, n, told)
		var rising [][]int
		for bits := range uint(1) << n {
			rising = append(rising, some(n, bits).vertices(true))
		}
		lists.Each(5, []int{-1, 0, 1, 2, 3, 4, 5}, func(l []int) {
			bits := slices.IndexFunc(rising, func(other []int) bool { return slices.Equal(l, other) })
			switch {
			case bits < 0:
				checkNone(t, n, g, l, api.ErrVertex)
			case bits == 0 || bits == 1<<n-1:
				checkNone(t, n, g, l, api.ErrCut)
			default:
				checkSide(t, g, told, some(n, uint(bits)))
			}
		})
	}
}

// P21.1, P21.2, P2: numbers that are no vertices, at each place of a list, alone, and ahead of what else is wrong with it.
func TestNoVertices(t *testing.T) {
	told := scatter.Edges(4, 9, 30)
	g := graphs.Of(t, 9, told)
	for _, v := range slices.Concat(beyond, []int{9, 10, -9, 9 + 1<<32, 64, 63}) {
		checkNone(t, 9, g, []int{v}, api.ErrVertex)
		checkNone(t, 9, g, slices.Repeat([]int{v}, 9), api.ErrVertex)
		for _, side := range [][]int{{2, 4, 5}, {0, 8}, {0, 1, 2, 3, 4, 5, 6, 7, 8}, {7}} {
			for at := range len(side) + 1 {
				checkNone(t, 9, g, slices.Insert(slices.Clone(side), at, v), api.ErrVertex)
			}
			for at := range side {
				wrong := slices.Clone(side)
				wrong[at] = v
				checkNone(t, 9, g, wrong, api.ErrVertex)
			}
		}
	}
}

// P21.1, P21.2: one number that does not rise, at each place of a long list.
func TestErrorsOfLongLists(t *testing.T) {
	const n = 700
	g := graphs.Of(t, n, scatter.Edges(2, n, 900))
	side := make([]int, n)
	for v := range side {
		side[v] = v
	}
	checkNone(t, n, g, side, api.ErrCut)
	checkNone(t, n, g, append(slices.Clone(side), n), api.ErrVertex)
	for at := 1; at < n; at++ {
		for _, v := range []int{at - 1, 0, -1, n} {
			wrong := slices.Clone(side)
			wrong[at] = v
			checkNone(t, n, g, wrong, api.ErrVertex)
		}
		if got := Check(n, slices.Delete(slices.Clone(side), at, at+1)); got != api.OK {
			t.Fatalf("without %d: %d", at, got)
		}
	}
}

// P21.1, P21.2: numbers of vertices at all the ends. There may be more of them than a graph has, and where there are none there is no side.
func TestNumbersOfVertices(t *testing.T) {
	for _, n := range []int{math.MinInt, math.MinInt + 1, -1 << 32, -api.MaxN, -2, -1, 0} {
		checkNone(t, n, nil, nil, api.ErrCut)
		for _, v := range slices.Concat(beyond, []int{0, 1, n, n - 1, -n}) {
			checkNone(t, n, nil, []int{v}, api.ErrVertex)
			checkNone(t, n, nil, []int{0, v}, api.ErrVertex)
		}
	}
	for _, n := range []int{2, 64, api.MaxN, api.MaxN + 1, api.MaxN + 2, 1 << 31, 1<<32 + 1, math.MaxInt - 1, math.MaxInt} {
		last := []int{n - 1}
		if got, why := Normal(n, last); Check(n, last) != api.OK || !slices.Equal(got, last) || why != api.OK {
			t.Errorf("the last one of %d: %d, %v, %d", n, Check(n, last), got, why)
		}
		if !Parts(n, last, 0, n-1) || !Parts(n, last, n-1, n-2) || Parts(n, last, n-2, 0) || Parts(n, last, n-1, -1) || Parts(n, last, n-1, n) || Parts(n, last, math.MinInt, n-1) || Parts(n, last, n-1, n-1) {
			t.Errorf("the last one of %d: Parts", n)
		}
		checkNone(t, n, nil, nil, api.ErrCut)
		checkNone(t, n, nil, []int{}, api.ErrCut)
		checkNone(t, n, nil, []int{n - 1, n}, api.ErrVertex)
		checkNone(t, n, nil, []int{n}, api.ErrVertex)
		checkNone(t, n, nil, []int{0, n - 1, n - 1}, api.ErrVertex)
	}
	checkNone(t, 1, graphs.Of(t, 1, nil), []int{0}, api.ErrCut)
}

// P21.2: the other sides of more vertices than a set has room for.
func TestManyOthers(t *testing.T) {
	for _, n := range []int{api.MaxN, api.MaxN + 1, 5000, 1 << 20} {
		for _, bound := range []int{2, 3, 64, 1000} {
			in := make(members, n)
			for v := range in {
				in[v] = v%bound == 0
			}
			side := in.vertices(true)
			if got, why := Normal(n, side); !slices.Equal(got, in.vertices(false)) || why != api.OK {
				t.Errorf("each %d of %d: %d others, %d", bound, n, len(got), why)
			}
			if !Parts(n, side, bound, n-n%bound-1) || Parts(n, side, 0, bound) || Parts(n, side, 1, bound+1) {
				t.Errorf("each %d of %d: Parts", bound, n)
			}
		}
		if got, why := Normal(n, []int{0}); len(got) != n-1 || got[0] != 1 || got[n-2] != n-1 || why != api.OK {
			t.Errorf("%d others of %d, %d", len(got), n, why)
		}
	}
	// Beyond 2^31 - 1 bytes nothing is promised; the call ends all the same, without taking the memory.
	for _, n := range []int{1<<28 + 1, 1 << 32, math.MaxInt - 1, math.MaxInt} {
		if got, why := Normal(n, []int{0}); len(got) != 0 || why != api.ErrLong {
			t.Errorf("%d others of %d, %d", len(got), n, why)
		}
	}
}

// P21.1, P21.2: sides of graphs of few and of many edges, light and heavy ones, held against edges as they were told.
func TestManyEdges(t *testing.T) {
	for _, c := range []struct{ n, m int }{{2, 50}, {5, 3}, {7, 200}, {30, 40}, {63, 200}, {64, 64}, {65, 4000}, {129, 150}, {150, 20000}} {
		for seed := range uint64(4) {
			told := scatter.Edges(seed, c.n, c.m)
			g := graphs.Of(t, c.n, told)
			for v := range c.n {
				in := make(members, c.n)
				in[v] = true
				checkSide(t, g, told, in)
			}
			for _, in := range scattered(seed, c.n) {
				checkSide(t, g, told, in)
				if c.n < 70 {
					checkParts(t, in)
				}
			}
		}
	}
}

// scattered are members of n vertices in all densities, which look like chance; they are neither none nor all.
func scattered(seed uint64, n int) []members {
	var all []members
	for part := 1; part < 8; part++ {
		in := make(members, n)
		for v, number := range scatter.Below(seed+uint64(100*part), n, 8) {
			in[v] = number < part
		}
		at := part * n / 9
		in[at], in[(at+1)%n] = true, false
		all = append(all, in)
	}
	return all
}

// P21.1, P21.2: as many vertices as there may be, alone and with edges all over.
func TestMostVertices(t *testing.T) {
	for _, m := range []int{0, 5000, 1 << 16} {
		told := scatter.Edges(5, api.MaxN, m)
		g := graphs.Of(t, api.MaxN, told)
		for _, in := range scattered(6, api.MaxN) {
			checkSide(t, g, told, in)
		}
		for _, v := range []int{0, 1, 63, 64, 2047, api.MaxN - 2, api.MaxN - 1} {
			in := make(members, api.MaxN)
			in[v] = true
			checkSide(t, g, told, in)
			for u := range in {
				in[u] = u != v
			}
			checkSide(t, g, told, in)
		}
	}
}

// P21.1, P21.2: as many edges as there may be, each as heavy as may be: all of them cross, or all of one vertex, or half of them.
func TestMostEdges(t *testing.T) {
	var told []api.Edge
	even := make(members, 2048)
	for u := 0; u < 2048; u += 2 {
		even[u] = true
		for v := 1; v < 2048; v += 2 {
			told = append(told, api.Edge{U: u, V: v, W: api.MaxW})
		}
	}
	g := graphs.Of(t, 2048, told)
	checkSide(t, g, told, even)
	if got, why := Weight(g, even.vertices(true)); got != 1<<51 || why != api.OK {
		t.Errorf("all of them weigh %d, %d", got, why)
	}
	if got, why := Crossing(g, even.vertices(false)); len(got) != api.MaxM || why != api.OK {
		t.Errorf("%d of them cross, %d", len(got), why)
	}
	if got, why := Weight(g, []int{2047}); got != 1<<41 || why != api.OK {
		t.Errorf("those of a vertex weigh %d, %d", got, why)
	}
	half := make(members, 2048)
	for v := range 1024 {
		half[v] = true
	}
	checkSide(t, g, told, half)
}

// P21.1: an edge may weigh as much as one that was merged of many.
func TestHeaviest(t *testing.T) {
	checkGraph(t, 4, slices.Repeat(lists.Edges(3, 1, api.MaxW), api.MaxM))
}

// P21.3: a side and its other side weigh the same, and the same edges cross.
func TestOtherSide(t *testing.T) {
	for _, n := range []int{2, 3, 20, 64, 65, 150} {
		for seed := range uint64(4) {
			g := graphs.Of(t, n, scatter.Edges(seed, n, 5*n))
			for _, in := range scattered(seed, n) {
				side, other := in.vertices(true), in.vertices(false)
				a, why := Weight(g, side)
				b, otherWhy := Weight(g, other)
				if a != b || why != api.OK || otherWhy != api.OK {
					t.Fatalf("%v weighs %d, %v %d: %d, %d", side, a, other, b, why, otherWhy)
				}
				numbers, _ := Crossing(g, side)
				if got, _ := Crossing(g, other); !slices.Equal(got, numbers) {
					t.Fatalf("%v crosses %v, %v %v", side, numbers, other, got)
				}
				normal, _ := Normal(n, side)
				if got, _ := Normal(n, other); !slices.Equal(got, normal) || slices.Contains(got, 0) {
					t.Fatalf("Normal of %v and of %v: %v, %v", side, other, normal, got)
				}
			}
		}
	}
}

// P21.3: what two sides weigh together is no less than what what they share, and what both have, weigh.
func TestSharedAndBoth(t *testing.T) {
	for n := 2; n < 7; n++ {
		for seed := range uint64(5) {
			weights := allWeights(t, graphs.Of(t, n, scatter.Edges(seed, n, 3*n)))
			for a := range weights {
				for b := range weights {
					if weights[a]+weights[b] < weights[a&b]+weights[a|b] {
						t.Fatalf("%d vertices, %d: %b and %b weigh %d and %d, less than %d and %d", n, seed, a, b, weights[a], weights[b], weights[a&b], weights[a|b])
					}
				}
			}
		}
	}
}

// allWeights are what all sides of g weigh, by their bits; none and all, which are no sides, weigh nothing.
func allWeights(t *testing.T, g *net.Net) []int64 {
	t.Helper()
	weights := make([]int64, 1<<g.N())
	for bits := 1; bits < len(weights)-1; bits++ {
		weight, why := Weight(g, some(g.N(), uint(bits)).vertices(true))
		if why != api.OK {
			t.Fatalf("%b of %d vertices: %d", bits, g.N(), why)
		}
		weights[bits] = weight
	}
	return weights
}

// P21.1: the edges that cross weigh what the side weighs, by the graph's own telling.
func TestCrossingWeighs(t *testing.T) {
	g := graphs.Of(t, 90, scatter.Edges(8, 90, 700))
	for _, in := range scattered(3, 90) {
		numbers, why := Crossing(g, in.vertices(true))
		if why != api.OK {
			t.Fatal(why)
		}
		sum, across := int64(0), int64(0)
		for _, i := range numbers {
			e, _ := g.Edge(i)
			sum += e.W
		}
		for _, u := range in.vertices(true) {
			for _, v := range in.vertices(false) {
				across += g.Weight(u, v)
			}
		}
		if weight, _ := Weight(g, in.vertices(true)); sum != weight || across != weight {
			t.Fatalf("%v: %d, %d, not %d", in, sum, across, weight)
		}
	}
}

// P21.1, P21.2, P7: a nil graph and one without vertices have no sides, and one without edges has those that weigh nothing.
func TestNone(t *testing.T) {
	for _, g := range []*net.Net{nil, graphs.Of(t, 0, nil)} {
		checkNone(t, 0, g, nil, api.ErrCut)
		checkNone(t, 0, g, []int{}, api.ErrCut)
		for _, v := range slices.Concat(beyond, []int{0, 1, 2}) {
			checkNone(t, 0, g, []int{v}, api.ErrVertex)
		}
	}
	for n := range 6 {
		checkGraph(t, n, nil)
		checkGraph(t, n, make([]api.Edge, n))
	}
}

// P4: lists that are handed in are neither changed nor kept, and what lies behind their lengths is neither read nor written.
func TestListsAreNotChanged(t *testing.T) {
	told := scatter.Edges(7, 70, 300)
	g, twin := graphs.Of(t, 70, told), graphs.Of(t, 70, told)
	for _, in := range scattered(9, 70) {
		side := in.vertices(true)
		behind := append(slices.Clone(side), -7, 69, 1)
		given := behind[:len(side)]
		before := slices.Clone(behind)
		weight, _ := Weight(g, given)
		numbers, _ := Crossing(g, given)
		normal, _ := Normal(70, given)
		cut, _ := Cut(g, given)
		if Check(70, given) != api.OK || !Right(g, api.Cut{W: weight, Side: given}) || weight != in.weigh(told) || !Parts(70, given, side[0], in.vertices(false)[0]) {
			t.Fatalf("%v", side)
		}
		if !slices.Equal(behind, before) {
			t.Fatalf("%v became %v", before, behind)
		}
		// What was answered is new memory, up to its capacity.
		for _, l := range [][]int{numbers, normal, cut.Side} {
			lists.Spoil(l)
		}
		if !slices.Equal(behind, before) {
			t.Fatalf("%v became %v by what was answered", before, behind)
		}
		checkSide(t, g, told, in)
	}
	if !net.Same(g, twin) {
		t.Error("another graph")
	}
}

// P4: two answers share no memory.
func TestAnswersAreNewMemory(t *testing.T) {
	g := graphs.Of(t, 40, scatter.Edges(3, 40, 90))
	for _, in := range scattered(2, 40) {
		side := in.vertices(true)
		for _, tell := range []func() []int{
			func() []int { l, _ := Crossing(g, side); return l },
			func() []int { l, _ := Normal(40, side); return l },
			func() []int { c, _ := Cut(g, side); return c.Side },
		} {
			first, second := tell(), tell()
			want := slices.Clone(second)
			clear(first[:cap(first)])
			if !slices.Equal(second, want) || !slices.Equal(tell(), want) {
				t.Fatalf("%v became %v", want, second)
			}
		}
	}
}

// P5: what is told is the same each time, whatever was asked ahead, and of whatever graph.
func TestAgain(t *testing.T) {
	told := scatter.Edges(6, 60, 200)
	g, twin := graphs.Of(t, 60, told), graphs.Of(t, 60, told)
	for seed := range uint64(20) {
		for _, in := range scattered(seed, 60) {
			checkSide(t, g, told, in)
			checkSide(t, twin, told, in)
		}
		checkNone(t, 60, g, []int{3, 2}, api.ErrVertex)
		checkGraph(t, 4, scatter.Edges(seed, 4, 9))
	}
}

// What crosses is not gone over any further than it is asked for.
func TestCrossingIsLeft(t *testing.T) {
	g := graphs.Of(t, 5, lists.Edges(0, 1, 1, 0, 2, 1, 1, 2, 1, 0, 3, 1, 0, 4, 1))
	for most := 1; most < 6; most++ {
		var met []int
		for i := range crossing(g, []int{0}) {
			met = append(met, i)
			if len(met) == most {
				break
			}
		}
		if want := []int{0, 1, 2, 3}[:min(most, 4)]; !slices.Equal(met, want) {
			t.Errorf("%d of them: %v", most, met)
		}
	}
}
