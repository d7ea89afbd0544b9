package pheap

import (
	"math"
	"math/bits"
	"slices"
	"testing"

	"strait/api"
	"strait/scatter"
)

// rooms are some of all sizes, up to the most there is.
var rooms = []int{0, 1, 2, 3, 4, 5, 7, 8, 9, 31, 64, 65, 130, 1000, api.MaxN - 1, api.MaxN}

// brinks are keys at the ends of what there is, and about nought.
var brinks = []int64{math.MinInt64, math.MinInt64 + 1, math.MinInt32, -1 << 32, -2, -1, 0, 1, 2, 1 << 31, 1 << 32, 1 << 53, math.MaxInt64 - 1, math.MaxInt64}

// noVertices are numbers that are no vertices where there is room for n.
func noVertices(n int) []int {
	l := []int{-1, -2, -64, -api.MaxN, math.MinInt32, -1 << 32, math.MinInt, math.MinInt + 1, n, n + 1, n + 64, api.MaxN, api.MaxN + 1, 1 << 31, 1 << 32, 1<<32 + 1, math.MaxInt}
	return slices.DeleteFunc(l, func(v int) bool { return 0 <= v && v < n })
}

// plain tells the keys of those that are in; the first one is found by going over all.
type plain struct {
	room int
	keys map[int]int64
}

func newPlain(room int) *plain {
	return &plain{room, map[int]int64{}}
}

func (p *plain) push(v int, key int64) bool {
	if _, in := p.keys[v]; in || v < 0 || v >= p.room {
		return false
	}
	p.keys[v] = key
	return true
}

func (p *plain) raise(v int, key int64) bool {
	if was, in := p.keys[v]; !in || was > key {
		return false
	}
	p.keys[v] = key
	return true
}

func (p *plain) drop(v int) bool {
	_, in := p.keys[v]
	delete(p.keys, v)
	return in
}

func (p *plain) top() (int, int64, bool) {
	first := -1
	for v := range p.room {
		key, in := p.keys[v]
		if in && (first < 0 || key > p.keys[first]) {
			first = v
		}
	}
	if first < 0 {
		return 0, 0, false
	}
	return first, p.keys[first], true
}

func (p *plain) pop() (int, int64, bool) {
	v, key, ok := p.top()
	if ok {
		p.drop(v)
	}
	return v, key, ok
}

// both are a heap and plain keys; each call is made of both, and what they answer must be the same.
type both struct {
	t *testing.T
	h *Heap
	p *plain
}

func newBoth(t *testing.T, room int) both {
	return both{t, New(room), newPlain(room)}
}

func (b both) push(v int, key int64) {
	b.t.Helper()
	if ok := b.h.Push(v, key); ok != b.p.push(v, key) {
		b.t.Fatalf("Push(%d, %d) is %v", v, key, ok)
	}
}

func (b both) raise(v int, key int64) {
	b.t.Helper()
	if ok := b.h.Raise(v, key); ok != b.p.raise(v, key) {
		b.t.Fatalf("Raise(%d, %d) is %v", v, key, ok)
	}
}

func (b both) drop(v int) {
	b.t.Helper()
	if ok := b.h.Drop(v); ok != b.p.drop(v) {
		b.t.Fatalf("Drop(%d) is %v", v, ok)
	}
}

func (b both) pop() {
	b.t.Helper()
	v, key, ok := b.h.Pop()
	if v1, key1, ok1 := b.p.pop(); v != v1 || key != key1 || ok != ok1 {
		b.t.Fatalf("Pop is %d, %d, %v, not %d, %d, %v", v, key, ok, v1, key1, ok1)
	}
}

func (b both) top() {
	b.t.Helper()
	v, key, ok := b.h.Top()
	if v1, key1, ok1 := b.p.top(); v != v1 || key != key1 || ok != ok1 {
		b.t.Fatalf("Top is %d, %d, %v, not %d, %d, %v", v, key, ok, v1, key1, ok1)
	}
}

// same looks whether all is alike that tells what is in.
func (b both) same(what string) {
	b.t.Helper()
	if b.h == nil {
		b.t.Fatalf("%s: nil", what)
	}
	if b.h.Len() != len(b.p.keys) || b.h.Room() != b.p.room {
		b.t.Fatalf("%s: %d of %d, not %d of %d", what, b.h.Len(), b.h.Room(), len(b.p.keys), b.p.room)
	}
	b.top()
	for v := range b.p.room {
		want, in := b.p.keys[v]
		if key, ok := b.h.Key(v); key != want || ok != in {
			b.t.Fatalf("%s: Key(%d) is %d, %v, not %d, %v", what, v, key, ok, want, in)
		}
	}
	for _, v := range noVertices(b.p.room) {
		if key, ok := b.h.Key(v); key != 0 || ok {
			b.t.Fatalf("%s: Key(%d) is %d, %v", what, v, key, ok)
		}
	}
	b.sound(what)
}

// sound looks whether the heap is one tree of all that are in, in which nothing comes ahead of what it hangs below.
func (b both) sound(what string) {
	b.t.Helper()
	if b.h.Len() == 0 {
		return
	}
	seen := make([]bool, b.p.room)
	waiting := []int{b.h.root}
	for i := 0; i < len(waiting); i++ {
		above := b.h.trees.at(waiting[i])
		if seen[above.v] || b.h.cells[above.v] != waiting[i] {
			b.t.Fatalf("%s: %d is not in one place", what, above.v)
		}
		seen[above.v] = true
		back := waiting[i]
		for cell := above.below; cell != none; cell = b.h.trees.at(cell).next {
			n := b.h.trees.at(cell)
			if n.back != back || !b.h.ahead(above.v, n.v) || len(waiting) > b.p.room {
				b.t.Fatalf("%s: %d hangs below %d", what, n.v, above.v)
			}
			back = cell
			waiting = append(waiting, cell)
		}
	}
	if len(waiting) != b.h.Len() {
		b.t.Fatalf("%s: %d of %d are in the tree", what, len(waiting), b.h.Len())
	}
}

// drain pops all, and once more.
func (b both) drain() {
	b.t.Helper()
	for len(b.p.keys) > 0 {
		b.top()
		b.pop()
	}
	b.pop()
	b.same("drained")
}

// P12.1: nothing is in it, and there is as much room as was asked for, as far as there is any.
func TestNew(t *testing.T) {
	for _, n := range rooms {
		newBoth(t, n).drain()
	}
	for _, c := range []struct{ n, room int }{
		{-1, 0}, {-2, 0}, {-4096, 0}, {-1 << 32, 0}, {math.MinInt, 0},
		{4095, 4095}, {4096, 4096}, {4097, 4096}, {5000, 4096}, {1 << 20, 4096}, {1 << 32, 4096}, {math.MaxInt, 4096},
	} {
		b := both{t, New(c.n), newPlain(c.room)}
		b.same("New")
		for _, v := range append(noVertices(c.room), 0, c.room-1, c.room) {
			b.push(v, 5)
		}
		b.same("pushed")
		b.drain()
	}
	if New(9).Links() != 0 {
		t.Error("links")
	}
}

// P12.1, P12.2: the example of the chapter.
func TestExample(t *testing.T) {
	h := New(3)
	for v, key := range []int64{2, 5, 5} {
		if !h.Push(v, key) {
			t.Errorf("Push(%d, %d)", v, key)
		}
	}
	for _, want := range []struct {
		v   int
		key int64
	}{{1, 5}, {2, 5}, {0, 2}} {
		if v, key, ok := h.Pop(); v != want.v || key != want.key || !ok {
			t.Errorf("Pop: %d, %d, %v, not %v", v, key, ok, want)
		}
	}
	if v, key, ok := h.Pop(); v != 0 || key != 0 || ok {
		t.Errorf("Pop of nothing: %d, %d, %v", v, key, ok)
	}
}

// P12.1: a vertex is in with its key, whatever that is, and once only.
func TestPush(t *testing.T) {
	for i, key := range brinks {
		b := newBoth(t, 3)
		b.push(1, key)
		b.same("one")
		for _, other := range brinks {
			if b.h.Push(1, other) {
				t.Fatalf("Push(1, %d) beside %d", other, key)
			}
		}
		b.same("once only")
		b.push(2, brinks[(i+1)%len(brinks)])
		b.push(0, brinks[(i+2)%len(brinks)])
		b.same("three")
		b.drain()
		b.push(1, key)
		b.same("again")
	}
}

// P12.1, P12.2: what is no vertex can't come in, has no key, and isn't taken out.
func TestNoVertices(t *testing.T) {
	for _, n := range rooms {
		b := newBoth(t, n)
		for round := range 2 {
			links := b.h.Links()
			for _, v := range noVertices(n) {
				for _, key := range []int64{math.MinInt64, -1, 0, 1, math.MaxInt64} {
					if b.h.Push(v, key) || b.h.Raise(v, key) {
						t.Fatalf("room %d, round %d: %d is in", n, round, v)
					}
				}
				if b.h.Drop(v) {
					t.Fatalf("room %d, round %d: Drop(%d)", n, round, v)
				}
			}
			b.same("no vertices")
			if b.h.Links() != links {
				t.Fatalf("room %d: links", n)
			}
			for v := range n {
				b.push(v, int64(v%7))
			}
		}
		b.drain()
	}
}

// P12.1: a key is raised to all that is not below it, which it is itself, and to nothing else.
func TestRaise(t *testing.T) {
	for _, was := range brinks {
		for _, key := range brinks {
			for _, others := range [][]int64{nil, {was}, {key}, {was, key, 0}, {math.MaxInt64, math.MinInt64}} {
				b := newBoth(t, 9)
				b.push(4, was)
				for i, other := range others {
					b.push(2+i*3, other) // below 4 and above it
				}
				if ok := b.h.Raise(4, key); ok != (key >= was) {
					t.Fatalf("Raise from %d to %d is %v", was, key, ok)
				}
				b.p.raise(4, key)
				b.same("raised")
				b.drain()
			}
		}
	}
}

// P12.1: what is not in can't be raised, be it that it never was, or that it is out again; and it isn't put in by that.
func TestRaiseOfNone(t *testing.T) {
	b := newBoth(t, 4)
	b.push(0, 5)
	b.push(1, 7)
	b.push(2, 6)
	b.pop()
	b.drop(2)
	for _, v := range []int{1, 2, 3} {
		for _, key := range brinks {
			if b.h.Raise(v, key) {
				t.Fatalf("Raise(%d, %d)", v, key)
			}
		}
	}
	b.same("none was raised")
}

// P12.1: what is dropped is out, was it the first one, the last one or in between; a second time it was not in.
func TestDrop(t *testing.T) {
	for v := range 9 {
		b := newBoth(t, 9)
		for u := range 9 {
			b.push(u, int64(u*4%9))
		}
		if !b.h.Drop(v) {
			t.Fatalf("Drop(%d)", v)
		}
		b.p.drop(v)
		b.same("dropped")
		if b.h.Drop(v) || b.h.Raise(v, 100) {
			t.Fatalf("%d is out", v)
		}
		b.same("dropped once")
		b.push(v, 3)
		b.same("in again, with another key")
		b.drain()
	}
}

// P12.2: the first one is told by the greatest key, and of like ones by the least vertex, in whatever order they came.
func TestTop(t *testing.T) {
	b := newBoth(t, 6)
	for _, s := range []struct {
		v     int
		key   int64
		first int
	}{{3, -5, 3}, {5, -5, 3}, {2, -5, 2}, {4, 0, 4}, {1, 0, 1}, {0, -1, 1}} {
		b.push(s.v, s.key)
		if v, _, ok := b.h.Top(); v != s.first || !ok {
			t.Errorf("Top is %d, not %d", v, s.first)
		}
		b.same("pushed")
	}
	b.raise(5, 0)
	b.same("raised to what others have")
	b.raise(0, 0)
	b.same("a lesser one was raised")
	b.raise(5, 1)
	b.same("raised above all")
	b.drain()
}

// P12.2: Top, Key, Len, Room and Links change nothing, however often they are asked.
func TestAskingChangesNothing(t *testing.T) {
	b := newBoth(t, 20)
	for v := range 20 {
		b.push(v, int64(v*7%10))
	}
	b.pop()
	links := b.h.Links()
	for range 50 {
		b.same("asked")
		if b.h.Links() != links {
			t.Fatalf("%d links, not %d", b.h.Links(), links)
		}
	}
	b.drain()
}

// P12.1, P12.2: all ways of some calls on a heap of little room, with keys of which some are alike.
func TestAllSmallWays(t *testing.T) {
	for room, calls := range []int{3, 5, 4, 4} {
		kinds := 5*room + 6 // of one vertex beyond the room, too
		ways := 1
		for range calls {
			ways *= kinds
		}
		for way := range ways {
			b := newBoth(t, room)
			for range calls {
				b.call(way % kinds)
				way /= kinds
			}
			b.top()
			if b.h.Len() != len(b.p.keys) {
				t.Fatalf("room %d: %d, not %d", room, b.h.Len(), len(b.p.keys))
			}
			b.drain()
		}
	}
}

// call makes the call of that number: one of five on each vertex, or a Pop.
func (b both) call(kind int) {
	b.t.Helper()
	if kind == 0 {
		b.pop()
		return
	}
	v := (kind - 1) / 5
	switch (kind - 1) % 5 {
	case 0:
		b.push(v, -1)
	case 1:
		b.push(v, 1)
	case 2:
		b.raise(v, -1)
	case 3:
		b.raise(v, 2)
	default:
		b.drop(v)
	}
}

// orders goes over all orders of l.
func orders(l []int, at int, do func()) {
	if at == len(l) {
		do()
		return
	}
	for i := at; i < len(l); i++ {
		l[at], l[i] = l[i], l[at]
		orders(l, at+1, do)
		l[at], l[i] = l[i], l[at]
	}
}

// P12.1 to P12.3: five vertices in all orders, of which some are popped, and then one is raised, or dropped.
func TestAllOrders(t *testing.T) {
	for _, keys := range [][]int64{{0, 0, 0, 0, 0}, {0, 2, 4, 6, 8}, {8, 6, 4, 2, 0}, {2, 0, 2, 0, 2}, {4, 0, 8, 2, 6}} {
		order := []int{0, 1, 2, 3, 4}
		orders(order, 0, func() {
			for way := range 3 * 5 * 11 {
				b := newBoth(t, 5)
				for _, v := range order {
					b.push(v, keys[v])
				}
				for range way % 3 {
					b.pop()
				}
				v, key := way/3%5, int64(way/15)
				if key == 10 {
					b.drop(v)
				} else {
					b.raise(v, key)
				}
				b.drain()
			}
		})
	}
}

// keysOf are n keys of one kind: few that are often alike, all kinds, or those at the brinks.
func keysOf(kind int, seed uint64, n int) []int64 {
	l := make([]int64, n)
	for i, word := range scatter.Words(seed, n) {
		switch kind {
		case 0:
			l[i] = int64(word%9) - 4
		case 1:
			l[i] = int64(word)
		default:
			l[i] = brinks[word%uint64(len(brinks))]
		}
	}
	return l
}

// P12.1, P12.2: many calls, each held against what the plain keys tell.
func TestManyCalls(t *testing.T) {
	for seed, room := range rooms {
		for kind := range 3 {
			b := newBoth(t, room)
			count := 4*min(room, 400) + 100
			kinds, vertices := scatter.Below(uint64(seed)+3, count, 12), scatter.Below(uint64(seed)+99, count, min(room, 500)+2)
			links := 0
			for i, key := range keysOf(kind, uint64(seed)+7, count) {
				b.some(kinds[i], vertices[i]-1, key, i < count*2/3)
				if b.h.Links() < links {
					t.Fatalf("room %d, call %d: %d links, not %d", room, i, b.h.Links(), links)
				}
				links = b.h.Links()
				if i%53 == 0 {
					b.same("on the way")
				}
			}
			b.same("at last")
			b.drain()
		}
	}
}

// some makes one call; while the heap is to grow, more are pushed than taken out.
func (b both) some(kind, v int, key int64, grow bool) {
	b.t.Helper()
	if !grow {
		kind = (kind + 3) % 12
	}
	switch {
	case kind < 5:
		b.push(v, key)
	case kind < 8:
		b.raise(v, key)
	case kind < 9:
		b.top()
	case kind < 10:
		b.drop(v)
	case kind < 11 || !grow:
		b.pop()
	default:
		want, in := b.p.keys[v]
		if got, ok := b.h.Key(v); got != want || ok != in {
			b.t.Fatalf("Key(%d) is %d, %v, not %d, %v", v, got, ok, want, in)
		}
	}
}

// P12.3: what is popped one behind the other falls by keys, and rises where these are alike; each one comes once.
func TestPopInOrder(t *testing.T) {
	for _, n := range rooms {
		for kind := range 3 {
			h, in := New(n), keysOf(kind, uint64(n)+1, n)
			for i := range n {
				v := (i*7919 + n/2) % n // each one once, as 7919 is a prime above n
				h.Push(v, in[v])
			}
			want := make([]int, n)
			for v := range want {
				want[v] = v
			}
			slices.SortStableFunc(want, func(u, v int) int {
				switch {
				case in[u] > in[v]:
					return -1
				case in[u] < in[v]:
					return 1
				}
				return 0
			})
			for i, v := range want {
				if got, key, ok := h.Pop(); got != v || key != in[v] || !ok || h.Len() != n-i-1 {
					t.Fatalf("%d, place %d: %d, %d, %v, not %d, %d", n, i, got, key, ok, v, in[v])
				}
			}
			if v, key, ok := h.Pop(); v != 0 || key != 0 || ok {
				t.Fatalf("%d: %d, %d, %v behind all", n, v, key, ok)
			}
		}
	}
}

// P12.3: the order holds where keys are raised, and others come in, between one and the next.
func TestPopBetweenRaises(t *testing.T) {
	for _, n := range []int{2, 5, 65, 500} {
		for kind := range 3 {
			b := newBoth(t, n)
			keys := keysOf(kind, uint64(n)+5, 3*n)
			for v := range n {
				b.push(v, keys[v])
			}
			vertices := scatter.Below(uint64(n), 3*n, n)
			for i := n; i < 3*n; i += 2 {
				b.raise(vertices[i], keys[i])
				b.raise(vertices[i+1-n], keys[i])
				b.pop()
				if i%3 == 0 {
					b.push(vertices[i-1], keys[i-1])
				}
			}
			b.same("popped")
			b.drain()
		}
	}
}

// P12.2: links never fall; a call that says false, and one that asks, makes none.
func TestLinks(t *testing.T) {
	b := newBoth(t, 300)
	vertices, keys := scatter.Below(4, 3000, 302), keysOf(0, 4, 3000)
	links := 0
	for i, v := range vertices {
		var done bool
		switch i % 5 {
		case 0, 1:
			done = b.h.Push(v-1, keys[i])
		case 2:
			done = b.h.Raise(v-1, keys[i])
		case 3:
			done = b.h.Drop(v - 1)
		default:
			_, _, done = b.h.Pop()
		}
		if now := b.h.Links(); now < links || now > links && !done {
			t.Fatalf("call %d: %d links, and then %d", i, links, now)
		}
		links = b.h.Links()
	}
	for b.h.Len() > 0 {
		b.h.Pop()
	}
	if b.h.Links() < links || links == 0 {
		t.Errorf("%d links, and then %d", links, b.h.Links())
	}
}

// P12.2: of n that are in at once all but one were hung below another one, till the first one is known; one alone never is.
func TestLinksAtLeast(t *testing.T) {
	for _, n := range []int{1, 2, 3, 10, 500} {
		h := New(n)
		for v := range n {
			h.Push(v, int64(v*3%7))
		}
		h.Pop()
		if h.Links() < n-1 || n == 1 && h.Links() != 0 {
			t.Errorf("%d: %d links", n, h.Links())
		}
	}
	h := New(2)
	for range 5 {
		h.Push(1, 3)
		h.Raise(1, 4)
		h.Drop(1)
		h.Push(0, 3)
		h.Pop()
	}
	if h.Links() != 0 {
		t.Errorf("one by one: %d links", h.Links())
	}
}

// What is pushed in any order is popped with few links: trees are paired, and don't all hang below one again.
func TestFewLinks(t *testing.T) {
	for _, n := range []int{64, 1000, api.MaxN} {
		for kind, of := range []func(v int) int64{
			func(v int) int64 { return int64(v) },
			func(v int) int64 { return int64(-v) },
			func(v int) int64 { return 0 },
			func(v int) int64 { return int64(v * 7919 % n) },
			func(v int) int64 { return int64((v ^ v>>3) % 61) },
		} {
			h := New(n)
			for v := range n {
				h.Push(v, of(v))
			}
			for range n {
				h.Pop()
			}
			if most := 2 * n * bits.Len(uint(n)); h.Links() > most {
				t.Errorf("%d of kind %d: %d links, more than %d", n, kind, h.Links(), most)
			}
		}
	}
}

// P12.1, P12.2: of nil there is nothing.
func TestNil(t *testing.T) {
	var none *Heap
	for _, v := range append(noVertices(0), 0, 1) {
		if none.Push(v, 1) || none.Raise(v, 1) || none.Drop(v) {
			t.Errorf("%d", v)
		}
		if key, ok := none.Key(v); key != 0 || ok {
			t.Errorf("Key(%d)", v)
		}
	}
	if v, key, ok := none.Pop(); v != 0 || key != 0 || ok {
		t.Error("Pop")
	}
	if v, key, ok := none.Top(); v != 0 || key != 0 || ok {
		t.Error("Top")
	}
	if none.Room() != 0 || none.Len() != 0 || none.Links() != 0 {
		t.Error("room, vertices, links")
	}
}

// P5: heaps do not hang on one another, and the same calls are answered alike.
func TestHeapsApart(t *testing.T) {
	a, b, c := newBoth(t, 6), newBoth(t, 6), newBoth(t, 6)
	for v := range 6 {
		a.push(v, int64(v*5%6))
		c.push(5-v, int64(v))
		b.push(v, int64(v*5%6))
	}
	a.pop()
	c.raise(2, 9)
	b.pop()
	c.drop(4)
	a.raise(3, 9)
	b.raise(3, 9)
	a.same("a")
	b.same("b")
	c.same("c")
	if a.h.Links() != b.h.Links() {
		t.Errorf("%d and %d links", a.h.Links(), b.h.Links())
	}
	a.drain()
	c.drain()
	b.same("b, when the others are drained")
	b.drain()
	newBoth(t, 6).same("another one")
}
