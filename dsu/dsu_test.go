package dsu

import (
	"math"
	"slices"
	"testing"

	"strait/api"
	"strait/scatter"
)

// rooms are some of all sizes, up to the most there is.
var rooms = []int{0, 1, 2, 3, 4, 5, 7, 8, 9, 31, 64, 65, 130, 1000, api.MaxN - 1, api.MaxN}

// noVertices are numbers that are no vertices where there are n of them.
func noVertices(n int) []int {
	return []int{-1, -2, -64, -api.MaxN, math.MinInt32, -1 << 32, math.MinInt, math.MinInt + 1, n, n + 1, n + 64, api.MaxN, api.MaxN + 1, 1 << 31, 1 << 32, 1<<32 + 1, math.MaxInt}
}

// plain tells of each vertex what its class is called; all else is found by going over it.
type plain []int

func newPlain(n int) plain {
	p := make(plain, n)
	for v := range p {
		p[v] = v
	}
	return p
}

func (p plain) join(u, v int) bool {
	if u < 0 || v < 0 || u >= len(p) || v >= len(p) || p[u] == p[v] {
		return false
	}
	name, other := min(p[u], p[v]), max(p[u], p[v])
	for w := range p {
		if p[w] == other {
			p[w] = name
		}
	}
	return true
}

func (p plain) lists() [][]int {
	of := make([][]int, len(p))
	for v, name := range p {
		of[name] = append(of[name], v)
	}
	return slices.DeleteFunc(of, func(l []int) bool { return l == nil })
}

// holds looks whether c has just the classes of p, by all that tells of them.
func holds(t *testing.T, what string, c *Classes, p plain) {
	t.Helper()
	if c == nil {
		t.Fatalf("%s: nil", what)
	}
	lists, sizes := p.lists(), make([]int, len(p))
	for _, l := range lists {
		for _, v := range l {
			sizes[v] = len(l)
		}
	}
	if c.Room() != len(p) || c.Count() != len(lists) {
		t.Fatalf("%s: %d classes of %d vertices, not %d of %d", what, c.Count(), c.Room(), len(lists), len(p))
	}
	if got := c.List(); !sameLists(got, lists) {
		t.Fatalf("%s: %v, not %v", what, got, lists)
	}
	for v, name := range p {
		if c.Of(v) != name || c.Size(v) != sizes[v] {
			t.Fatalf("%s: the class of %d is called %d and has %d, not %d and %d", what, v, c.Of(v), c.Size(v), name, sizes[v])
		}
	}
	holdsPairs(t, what, c, p)
	for _, v := range noVertices(len(p)) {
		if v >= 0 && v < len(p) {
			continue
		}
		if c.Of(v) != -1 || c.Size(v) != 0 || c.Same(v, v) || c.Same(v, 0) || c.Same(0, v) {
			t.Fatalf("%s: there is no %d", what, v)
		}
	}
}

// holdsPairs looks at all pairs; of many vertices each with the next ones, and with a few far ones.
func holdsPairs(t *testing.T, what string, c *Classes, p plain) {
	t.Helper()
	others := make([]int, len(p))
	for v := range others {
		others[v] = v
	}
	if len(p) > 70 {
		others = append(others[:5:5], others[len(p)-5:]...)
	}
	for u := range p {
		for _, v := range append(others, (u+1)%len(p), (u+64)%len(p)) {
			if c.Same(u, v) != (p[u] == p[v]) || c.Same(v, u) != (p[u] == p[v]) {
				t.Fatalf("%s: Same(%d, %d) is %v", what, u, v, c.Same(u, v))
			}
		}
	}
}

func sameLists(a, b [][]int) bool {
	return slices.EqualFunc(a, b, slices.Equal[[]int])
}

// P10.1: there are so many vertices as were asked for, as far as there is room, each a class by itself.
func TestNew(t *testing.T) {
	for n := range 70 {
		holds(t, "New", New(n), newPlain(n))
	}
	for _, n := range rooms {
		holds(t, "New", New(n), newPlain(n))
	}
	for _, c := range []struct{ n, room int }{
		{-1, 0}, {-2, 0}, {-4096, 0}, {-1 << 32, 0}, {math.MinInt, 0},
		{4095, 4095}, {4096, 4096}, {4097, 4096}, {5000, 4096}, {1 << 32, 4096}, {math.MaxInt, 4096},
	} {
		holds(t, "New", New(c.n), newPlain(c.room))
	}
}

// P10.1: the example of the chapter.
func TestExample(t *testing.T) {
	c := New(3)
	if !c.Join(2, 1) || !c.Join(0, 2) {
		t.Error("Join")
	}
	holds(t, "one class", c, plain{0, 0, 0})
}

// P10.1: two classes are one after they are joined, and are joined just once, whichever vertices name them.
func TestJoin(t *testing.T) {
	c := New(7)
	for i, s := range []struct {
		u, v  int
		were  bool
		names plain
	}{
		{5, 3, true, plain{0, 1, 2, 3, 4, 3, 6}},
		{5, 3, false, plain{0, 1, 2, 3, 4, 3, 6}},
		{3, 5, false, plain{0, 1, 2, 3, 4, 3, 6}},
		{5, 5, false, plain{0, 1, 2, 3, 4, 3, 6}},
		{4, 6, true, plain{0, 1, 2, 3, 4, 3, 4}},
		{6, 5, true, plain{0, 1, 2, 3, 3, 3, 3}}, // by vertices that are no names
		{4, 3, false, plain{0, 1, 2, 3, 3, 3, 3}},
		{4, 6, false, plain{0, 1, 2, 3, 3, 3, 3}},
		{6, 1, true, plain{0, 1, 2, 1, 1, 1, 1}}, // a class of one names one of four
		{2, 0, true, plain{0, 1, 0, 1, 1, 1, 1}},
		{0, 2, false, plain{0, 1, 0, 1, 1, 1, 1}},
		{4, 2, true, plain{0, 0, 0, 0, 0, 0, 0}},
		{6, 1, false, plain{0, 0, 0, 0, 0, 0, 0}},
		{0, 0, false, plain{0, 0, 0, 0, 0, 0, 0}},
	} {
		if c.Join(s.u, s.v) != s.were {
			t.Fatalf("step %d: Join(%d, %d) is %v", i, s.u, s.v, !s.were)
		}
		holds(t, "step", c, s.names)
	}
}

// P10.1: a vertex that there is not joins nothing, whether u or v or both are none.
func TestJoinOfNone(t *testing.T) {
	for _, n := range rooms {
		c, p := New(n), newPlain(n)
		for v := 2; v < n; v += 3 {
			c.Join(v, v-2)
			p.join(v, v-2)
		}
		for _, v := range noVertices(n) {
			if v >= 0 && v < n {
				continue
			}
			if c.Join(v, v) || c.Join(v, -v) || c.Join(v, n) || c.Join(-1, v) {
				t.Fatalf("%d of %d: both are none", v, n)
			}
			for _, u := range []int{0, 1, 2, n / 2, n - 1} {
				if c.Join(u, v) || c.Join(v, u) {
					t.Fatalf("%d of %d: with %d", v, n, u)
				}
			}
		}
		holds(t, "as it was", c, p)
	}
}

// P10.1: below no room and above the most, there is nothing to join, and all up to the last one.
func TestJoinAtTheEndsOfRooms(t *testing.T) {
	if c := New(-3); c.Join(0, 0) || c.Join(-1, -2) || c.Join(0, 1) || c.Count() != 0 || len(c.List()) != 0 {
		t.Error("-3")
	}
	c := New(math.MaxInt)
	if c.Join(4096, 4095) || c.Join(0, 4096) || !c.Join(4095, 0) || c.Join(0, 4095) {
		t.Error("MaxInt")
	}
	if c.Of(4095) != 0 || c.Of(4096) != -1 || c.Size(0) != 2 || c.Count() != 4095 || !c.Same(4095, 0) || c.Same(4094, 4095) {
		t.Error("4095")
	}
}

// P10.2: a class is called by its least vertex, even where a far greater class is joined to a single vertex.
func TestNamesAreLeast(t *testing.T) {
	for _, n := range rooms {
		if n < 3 {
			continue
		}
		c, p := New(n), newPlain(n)
		for v := n - 1; v > 2; v-- {
			c.Join(v, v-1)
			p.join(v, v-1)
		}
		holds(t, "all but two", c, p)
		if !c.Join(n-1, 1) || c.Of(n-1) != 1 || c.Of(2) != 1 || c.Size(1) != n-1 {
			t.Fatalf("%d: with 1", n)
		}
		if !c.Join(0, n-1) || c.Count() != 1 {
			t.Fatalf("%d: with 0", n)
		}
		holds(t, "all", c, make(plain, n))
	}
}

// P10.2: the classes are told by their names, and within each the vertices rise, in whatever order they came in.
func TestList(t *testing.T) {
	c := New(9)
	for _, e := range [][2]int{{8, 6}, {3, 8}, {7, 2}, {2, 5}, {0, 4}} {
		c.Join(e[0], e[1])
	}
	want := [][]int{{0, 4}, {1}, {2, 5, 7}, {3, 6, 8}}
	if got := c.List(); !sameLists(got, want) {
		t.Errorf("%v", got)
	}
	if got := New(0).List(); len(got) != 0 {
		t.Errorf("no vertices: %v", got)
	}
}

// P10.1, P10.2: all ways to join up to three pairs of up to four vertices, some of them no vertices.
func TestAllSmallWays(t *testing.T) {
	for n := range 5 {
		var pairs [][2]int
		for u := -1; u <= n; u++ {
			for v := -1; v <= n; v++ {
				pairs = append(pairs, [2]int{u, v})
			}
		}
		for way := range len(pairs) * len(pairs) * len(pairs) {
			c, p := New(n), newPlain(n)
			for range 3 {
				u, v := pairs[way%len(pairs)][0], pairs[way%len(pairs)][1]
				way /= len(pairs)
				if was := c.Join(u, v); was != p.join(u, v) {
					t.Fatalf("%d vertices: Join(%d, %d) is %v", n, u, v, was)
				}
			}
			if !sameLists(c.List(), p.lists()) || c.Count() != len(p.lists()) {
				t.Fatalf("%d vertices: %v, not %v", n, c.List(), p)
			}
		}
	}
}

// P10.1, P10.2: many calls, each held against what the plain classes tell.
func TestManyCalls(t *testing.T) {
	for seed, n := range []int{1, 2, 5, 17, 64, 65, 300, 1000, api.MaxN} {
		c, p := New(n), newPlain(n)
		l := scatter.Below(uint64(seed)+3, 3*min(n, 700)+60, n+2)
		for i := range len(l) - 1 {
			u, v := l[i]-1, l[i+1]-1 // from -1 to n
			same := u >= 0 && u < n && v >= 0 && v < n && p[u] == p[v]
			if c.Same(u, v) != same {
				t.Fatalf("%d, call %d: Same(%d, %d) is %v", n, i, u, v, !same)
			}
			if i%3 == 0 {
				if was := c.Join(u, v); was != p.join(u, v) {
					t.Fatalf("%d, call %d: Join(%d, %d) is %v", n, i, u, v, was)
				}
			}
			if v >= 0 && v < n && c.Of(v) != p[v] {
				t.Fatalf("%d, call %d: Of(%d) is %d", n, i, v, c.Of(v))
			}
			if i%97 == 0 {
				holds(t, "on the way", c, p)
			}
		}
		holds(t, "at last", c, p)
	}
}

// P10.2: each join makes one class less, and that one as great as both were.
func TestCountAndSize(t *testing.T) {
	for _, n := range []int{2, 3, 10, 65, api.MaxN} {
		c := New(n)
		us, vs := scatter.Below(1, 2*n, n), scatter.Below(2, 2*n, n)
		for i := range us {
			u, v := us[i], vs[i]
			same, both, count := c.Same(u, v), c.Size(u)+c.Size(v), c.Count()
			if c.Join(u, v) == same {
				t.Fatalf("%d: Join(%d, %d) is %v", n, u, v, same)
			}
			if !same && (c.Count() != count-1 || c.Size(u) != both || c.Size(v) != both) {
				t.Fatalf("%d: Join(%d, %d): %d classes, sizes %d and %d", n, u, v, c.Count(), c.Size(u), c.Size(v))
			}
			if same && (c.Count() != count || c.Size(u)+c.Size(v) != both) {
				t.Fatalf("%d: Join(%d, %d) has changed something", n, u, v)
			}
		}
	}
}

// orders goes over all orders of l.
func orders(l [][2]int, at int, do func()) {
	if at == len(l) {
		do()
		return
	}
	for i := at; i < len(l); i++ {
		l[at], l[i] = l[i], l[at]
		orders(l, at+1, do)
		l[at], l[i] = l[i], l[at]
	}
}

// P10.3: all orders of a few joins, each pair either way round.
func TestAllOrders(t *testing.T) {
	for _, pairs := range [][][2]int{
		{{0, 1}, {1, 2}, {2, 3}, {3, 4}, {4, 5}},
		{{5, 0}, {5, 1}, {5, 2}, {5, 3}, {5, 4}},
		{{6, 2}, {2, 4}, {4, 6}, {1, 5}, {3, 5}},
		{{0, 6}, {1, 5}, {2, 4}, {4, 5}, {3, 3}},
	} {
		p := newPlain(7)
		for _, e := range pairs {
			p.join(e[0], e[1])
		}
		orders(pairs, 0, func() {
			for round := range 1 << len(pairs) {
				c := New(7)
				for i, e := range pairs {
					c.Join(e[round>>i&1], e[1-round>>i&1])
				}
				if !sameLists(c.List(), p.lists()) {
					t.Fatalf("%v: %v, not %v", pairs, c.List(), p.lists())
				}
			}
		})
	}
}

// P10.3: many joins, in some orders, with and without asking between them.
func TestSomeOrders(t *testing.T) {
	for _, n := range []int{3, 10, 65, 500, api.MaxN} {
		us, vs := scatter.Below(7, n*2/3, n), scatter.Below(8, n*2/3, n)
		var pairs [][2]int
		first, p := New(n), newPlain(n)
		for i := range us {
			pairs = append(pairs, [2]int{us[i], vs[i]})
			first.Join(us[i], vs[i])
			p.join(us[i], vs[i])
		}
		holds(t, "first order", first, p)
		for order := range 4 {
			c := New(n)
			for i, at := range scatter.Below(uint64(order)+9, len(pairs), max(len(pairs), 1)) {
				pairs[i], pairs[at] = pairs[at], pairs[i]
			}
			for i, e := range pairs {
				if order%2 == 1 {
					c.Of(e[0])
					c.Same(e[1], us[i])
					c.Size(vs[len(vs)-1-i])
				}
				c.Join(e[order/2], e[1-order/2])
			}
			holds(t, "another order", c, p)
		}
	}
}

// P10.2: asking changes nothing that a later call could tell, of however long a way up.
func TestAskingChangesNothing(t *testing.T) {
	for _, n := range []int{1, 2, 9, 130, api.MaxN} {
		c := New(n)
		for v := n - 1; v > 0; v-- {
			c.Join(v-1, v)
		}
		all := make(plain, n)
		for _, v := range scatter.Below(5, 200, n) {
			if c.Of(v) != 0 || c.Of(v) != 0 || c.Size(v) != n || !c.Same(v, n-1) || c.Join(v, n-1) {
				t.Fatalf("%d of %d", v, n)
			}
		}
		holds(t, "one class", c, all)
		holds(t, "again", c, all)
	}
}

// height tells how many steps up it is from v.
func (c *Classes) height(v int) int {
	steps := 0
	for ; c.up[v] != v; v = c.up[v] {
		steps++
	}
	return steps
}

// The way up from a vertex is half as long after each time that it was asked for.
func TestWaysAreMadeShorter(t *testing.T) {
	c := New(api.MaxN)
	for v := api.MaxN - 1; v > 0; v-- {
		c.Join(v-1, v)
	}
	last := api.MaxN - 1
	for c.height(last) > 1 {
		was := c.height(last)
		c.Of(last)
		if is := c.height(last); is > was/2+1 || is >= was {
			t.Fatalf("%d steps, and then %d", was, is)
		}
	}
}

// P10.1, P10.2: of nil there is nothing.
func TestNil(t *testing.T) {
	var none *Classes
	for _, v := range append(noVertices(0), 3) {
		if none.Join(v, 0) || none.Join(0, v) || none.Join(v, v) || none.Same(v, v) || none.Same(0, v) || none.Size(v) != 0 || none.Of(v) != -1 {
			t.Errorf("%d", v)
		}
	}
	if none.Room() != 0 || none.Count() != 0 || len(none.List()) != 0 {
		t.Error("room, classes")
	}
}

// P4: the lists that are answered are new memory, and share none.
func TestListsAreNew(t *testing.T) {
	c := New(6)
	c.Join(0, 2)
	c.Join(5, 3)
	want := [][]int{{0, 2}, {1}, {3, 5}, {4}}
	a, b := c.List(), c.List()
	for i := range a {
		_ = append(a[i], 70, 71, 72)
		for j := range a[i] {
			a[i][j] = 90
		}
		if !sameLists(a[i+1:], want[i+1:]) {
			t.Fatalf("%v", a)
		}
	}
	_ = append(a[:0], nil, nil)
	if !sameLists(b, want) {
		t.Errorf("%v", b)
	}
	holds(t, "told", c, plain{0, 1, 0, 3, 4, 3})
	c.Join(0, 5)
	if !sameLists(b, want) {
		t.Errorf("%v", b)
	}
}

// P5: classes of one call do not hang on those of another one.
func TestClassesApart(t *testing.T) {
	a, b := New(4), New(4)
	a.Join(0, 3)
	b.Join(1, 2)
	holds(t, "a", a, plain{0, 1, 2, 0})
	holds(t, "b", b, plain{0, 1, 1, 3})
	holds(t, "another one", New(4), newPlain(4))
}
