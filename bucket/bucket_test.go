package bucket

import (
	"math"
	"slices"
	"testing"

	"strait/api"
	"strait/scatter"
)

// rooms are some of all sizes, up to the most there is.
var rooms = []int{0, 1, 2, 3, 4, 5, 7, 8, 9, 31, 64, 65, 130, 1000, api.MaxN - 1, api.MaxN}

// far are numbers that are neither vertices nor labels, whatever the room.
var far = []int{-1, -2, -64, -api.MaxN, math.MinInt32, -1 << 32, math.MinInt, math.MinInt + 1, 2*api.MaxN + 1, 1 << 31, 1 << 32, 1<<32 + 1, math.MaxInt - 1, math.MaxInt}

// noVertices are numbers that are no vertices where there is room for n.
func noVertices(n int) []int {
	return append([]int{n, n + 1, n + 64, 2 * n, 2*n + 1, api.MaxN, api.MaxN + 1}, far...)
}

// noLabels are numbers that are no labels where there is room for n.
func noLabels(n int) []int {
	return append([]int{2*n + 1, 2*n + 2, 2*n + 64, 3*n + 1}, far...)
}

// plain tells of each bucket that is not empty who is in it, the first one first; all else is found by going over these.
type plain struct {
	room int
	in   map[int][]int
}

func newPlain(room int) *plain {
	return &plain{room, map[int][]int{}}
}

func (p *plain) label(v int) int {
	for label, l := range p.in {
		if slices.Contains(l, v) {
			return label
		}
	}
	return -1
}

func (p *plain) drop(v int) bool {
	label := p.label(v)
	if label < 0 {
		return false
	}
	l := p.in[label]
	place := slices.Index(l, v)
	p.in[label] = slices.Delete(l, place, place+1)
	if len(p.in[label]) == 0 {
		delete(p.in, label)
	}
	return true
}

func (p *plain) put(v, label int) bool {
	if v < 0 || v >= p.room || label < 0 || label > 2*p.room {
		return false
	}
	p.drop(v)
	p.in[label] = slices.Insert(p.in[label], 0, v)
	return true
}

func (p *plain) highest() (int, int, bool) {
	for label := 2 * p.room; label >= 0; label-- {
		if l := p.in[label]; len(l) != 0 {
			return l[0], label, true
		}
	}
	return 0, 0, false
}

func (p *plain) above(label int) []int {
	var l []int
	for other, in := range p.in {
		if other > label {
			l = append(l, in...)
		}
	}
	slices.Sort(l)
	return l
}

// both are a row and a plain one; each call is made of both, and what they answer must be the same.
type both struct {
	t *testing.T
	b *Row
	p *plain
}

func newBoth(t *testing.T, room int) both {
	return both{t, New(room), newPlain(room)}
}

func (x both) put(v, label int) {
	x.t.Helper()
	if ok := x.b.Put(v, label); ok != x.p.put(v, label) {
		x.t.Fatalf("Put(%d, %d) is %v", v, label, ok)
	}
}

func (x both) drop(v int) {
	x.t.Helper()
	if ok := x.b.Drop(v); ok != x.p.drop(v) {
		x.t.Fatalf("Drop(%d) is %v", v, ok)
	}
}

func (x both) highest() {
	x.t.Helper()
	v, label, ok := x.b.Highest()
	if v1, label1, ok1 := x.p.highest(); v != v1 || label != label1 || ok != ok1 {
		x.t.Fatalf("Highest is %d, %d, %v, not %d, %d, %v", v, label, ok, v1, label1, ok1)
	}
}

// above looks whether those above that label are the same, and the list is of its own.
func (x both) above(label int) {
	x.t.Helper()
	want := x.p.above(label)
	got := x.b.Above(label)
	if !slices.Equal(got, want) {
		x.t.Fatalf("Above(%d) is %v, not %v", label, got, want)
	}
	for i := range got {
		got[i] = -7
	}
	if again := x.b.Above(label); !slices.Equal(again, want) {
		x.t.Fatalf("Above(%d) is %v, and then %v", label, want, again)
	}
}

// labels looks whether each vertex has the same label, and Len is right.
func (x both) labels(what string) {
	x.t.Helper()
	want := make([]int, x.p.room)
	for v := range want {
		want[v] = -1
	}
	in := 0
	for label, l := range x.p.in {
		for _, v := range l {
			want[v] = label
			in++
		}
	}
	for v, label := range want {
		if got := x.b.Label(v); got != label {
			x.t.Fatalf("%s: Label(%d) is %d, not %d", what, v, got, label)
		}
	}
	if got := x.b.Len(); got != in {
		x.t.Fatalf("%s: Len is %d, not %d", what, got, in)
	}
}

// same looks whether all is alike that tells what is in which bucket.
func (x both) same(what string) {
	x.t.Helper()
	if x.b == nil {
		x.t.Fatalf("%s: nil", what)
	}
	x.highest()
	x.labels(what)
	for _, v := range noVertices(x.p.room) {
		if got := x.b.Label(v); got != -1 {
			x.t.Fatalf("%s: Label(%d) is %d", what, v, got)
		}
	}
	for label := range 2*x.p.room + 1 {
		if got := x.b.Count(label); got != len(x.p.in[label]) {
			x.t.Fatalf("%s: Count(%d) is %d, not %d", what, label, got, len(x.p.in[label]))
		}
	}
	for _, label := range noLabels(x.p.room) {
		if got := x.b.Count(label); got != 0 {
			x.t.Fatalf("%s: Count(%d) is %d", what, label, got)
		}
	}
	for _, label := range append(noLabels(x.p.room), 0, 1, x.p.room, 2*x.p.room-1, 2*x.p.room) {
		x.above(label)
	}
}

// drain takes all out, the highest one first, and asks once more.
func (x both) drain() {
	x.t.Helper()
	for len(x.p.in) > 0 {
		x.highest()
		v, _, _ := x.b.Highest()
		x.drop(v)
	}
	x.same("drained")
}

// P13.1: all buckets are empty, and there is as much room as was asked for, as far as there is any.
func TestNew(t *testing.T) {
	for _, n := range rooms {
		x := newBoth(t, n)
		x.same("New")
		x.drop(0)
		x.drop(n - 1)
	}
	for _, c := range []struct{ n, room int }{
		{-1, 0}, {-2, 0}, {-4096, 0}, {-1 << 32, 0}, {math.MinInt, 0},
		{4095, 4095}, {4096, 4096}, {4097, 4096}, {5000, 4096}, {1 << 20, 4096}, {1 << 32, 4096}, {math.MaxInt, 4096},
	} {
		x := both{t, New(c.n), newPlain(c.room)}
		x.same("New")
		for _, v := range append(noVertices(c.room), 0, c.room-1) {
			for _, label := range append(noLabels(c.room), 0, 2*c.room-1, 2*c.room) {
				x.put(v, label)
			}
		}
		x.same("put")
		x.drain()
	}
}

// P13.1, P13.2: the example of the chapter.
func TestExample(t *testing.T) {
	b := New(3)
	if !b.Put(0, 3) || !b.Put(1, 3) || !b.Put(2, 1) {
		t.Error("Put")
	}
	for _, want := range []struct{ v, label int }{{1, 3}, {0, 3}, {2, 1}} {
		if v, label, ok := b.Highest(); v != want.v || label != want.label || !ok {
			t.Errorf("Highest is %d, %d, %v, not %v", v, label, ok, want)
		}
		if !b.Drop(want.v) {
			t.Errorf("Drop(%d)", want.v)
		}
	}
	if v, label, ok := b.Highest(); v != 0 || label != 0 || ok {
		t.Errorf("Highest of nothing is %d, %d, %v", v, label, ok)
	}
}

// P13.1: a vertex is put into each bucket that there is, from 0 to 2 n, and is in no other one.
func TestPut(t *testing.T) {
	for n := 1; n < 7; n++ {
		for v := range n {
			x := newBoth(t, n)
			for label := range 2*n + 1 {
				if !x.b.Put(v, label) {
					t.Fatalf("room %d: Put(%d, %d)", n, v, label)
				}
				x.p.put(v, label)
				x.same("raised")
			}
			for label := 2 * n; label >= 0; label-- {
				x.put(v, label)
				x.same("lowered")
			}
		}
	}
}

// P13.1: who is put into the bucket that it is in comes first there, wherever it was, and is there once.
func TestPutAgain(t *testing.T) {
	for n := 1; n < 6; n++ {
		for v := range n {
			for _, label := range []int{0, 1, n, 2 * n} {
				x := newBoth(t, n)
				for u := range n {
					x.put(u, label)
				}
				for range 3 {
					if !x.b.Put(v, label) {
						t.Fatalf("Put(%d, %d)", v, label)
					}
					x.p.put(v, label)
					if first, _, _ := x.b.Highest(); first != v || x.b.Count(label) != n || x.b.Len() != n {
						t.Fatalf("%d comes first of %d, not %d of %d", first, x.b.Count(label), v, n)
					}
				}
				x.same("put again")
				x.drain()
			}
		}
	}
}

// P13.1, P3: what is no vertex, or no label, changes nothing: neither is it put in, nor does the vertex leave its bucket.
func TestPutOfNone(t *testing.T) {
	for _, n := range rooms {
		x := newBoth(t, n)
		for round := range 2 {
			for _, v := range noVertices(n) {
				for _, label := range append(noLabels(n), 0, 1, n, 2*n) {
					if x.b.Put(v, label) {
						t.Fatalf("room %d, round %d: Put(%d, %d)", n, round, v, label)
					}
				}
				if x.b.Drop(v) {
					t.Fatalf("room %d, round %d: Drop(%d)", n, round, v)
				}
			}
			for _, label := range noLabels(n) {
				for v := range min(n, 9) {
					if x.b.Put(v, label) {
						t.Fatalf("room %d, round %d: Put(%d, %d)", n, round, v, label)
					}
				}
			}
			x.same("none was put")
			for v := range min(n, 200) {
				x.put(v, v*7%(2*n+1))
			}
		}
		x.drain()
	}
}

// P13.1: who is dropped is in no bucket, was it the first one there, the last one or in between; a second time it was in none.
func TestDrop(t *testing.T) {
	for n := 1; n < 7; n++ {
		for _, buckets := range []int{1, 2, 3} {
			for v := range n {
				for u := range n {
					x := newBoth(t, n)
					for w := range n {
						x.put(w, 2*n-w%buckets)
					}
					if !x.b.Drop(v) || x.b.Drop(v) || x.b.Label(v) != -1 {
						t.Fatalf("Drop(%d)", v)
					}
					x.p.drop(v)
					x.same("dropped")
					x.drop(u)
					x.same("two dropped")
					x.put(v, 2*n-1)
					x.same("in again")
					x.drain()
				}
			}
		}
	}
}

// P13.2: the highest one is told after each step, whether labels rise or fall, and buckets fill or get empty.
func TestHighest(t *testing.T) {
	b := New(4)
	for i, s := range []struct {
		v, label    int // put; dropped, where the label is -1
		first, high int // Highest; nothing, where high is -1
	}{
		{2, 0, 2, 0}, {1, 0, 1, 0}, {3, 5, 3, 5}, {0, 4, 3, 5}, {0, 5, 0, 5}, {0, 8, 0, 8},
		{0, 7, 0, 7}, {0, 0, 3, 5}, {3, -1, 0, 0}, {0, -1, 1, 0}, {2, -1, 1, 0}, {1, -1, 0, -1},
		{3, 1, 3, 1}, {3, 0, 3, 0}, {3, -1, 0, -1}, {0, 0, 0, 0}, {1, 8, 1, 8}, {1, -1, 0, 0}, {1, -1, 0, 0},
	} {
		if s.label >= 0 {
			b.Put(s.v, s.label)
		} else {
			b.Drop(s.v)
		}
		want := s.high >= 0
		if v, label, ok := b.Highest(); v != s.first || label != max(s.high, 0) || ok != want {
			t.Fatalf("step %d: %d, %d, %v, not %d, %d", i, v, label, ok, s.first, s.high)
		}
	}
}

// P13.2: the highest one is told where nobody asked for it in between, too.
func TestHighestAskedLate(t *testing.T) {
	for n := 1; n < 9; n++ {
		for high := range 2*n + 1 {
			for low := range high + 1 {
				x := newBoth(t, n)
				x.put(0, high)
				x.put(n-1, high)
				x.put(0, low)
				x.put(n/2, low)
				x.drop(n - 1)
				x.same("asked late")
				x.put(n-1, min(low+1, 2*n))
				x.same("and a little higher")
				x.drain()
			}
		}
	}
}

// P13.2: just those in buckets of greater labels are above, rising, in whatever order they came.
func TestAbove(t *testing.T) {
	b := New(6)
	for _, s := range []struct{ v, label int }{{5, 3}, {1, 12}, {3, 0}, {0, 3}, {4, 4}} {
		b.Put(s.v, s.label)
	}
	for _, c := range []struct {
		label int
		want  []int
	}{
		{math.MinInt, []int{0, 1, 3, 4, 5}}, {-2, []int{0, 1, 3, 4, 5}}, {-1, []int{0, 1, 3, 4, 5}},
		{0, []int{0, 1, 4, 5}}, {2, []int{0, 1, 4, 5}}, {3, []int{1, 4}}, {4, []int{1}}, {11, []int{1}},
		{12, nil}, {13, nil}, {math.MaxInt, nil},
	} {
		if got := b.Above(c.label); !slices.Equal(got, c.want) {
			t.Errorf("Above(%d) is %v, not %v", c.label, got, c.want)
		}
	}
}

// P13.2: all may be in one bucket, and each in one of its own.
func TestFull(t *testing.T) {
	for _, n := range rooms {
		one, apart := newBoth(t, n), newBoth(t, n)
		for v := range n {
			one.b.Put(v, n)
			one.p.in[n] = append(one.p.in[n], n-1-v) // the last one comes first
			apart.b.Put(v, 2*v+1)
			apart.p.in[2*v+1] = []int{v}
		}
		one.same("in one")
		apart.same("apart")
	}
}

// P13.2: Label, Highest, Count, Above and Len change nothing, however often they are asked.
func TestAskingChangesNothing(t *testing.T) {
	x := newBoth(t, 20)
	for v := range 20 {
		x.put(v, v*7%10)
	}
	x.drop(17)
	for range 50 {
		x.same("asked")
	}
	x.drain()
}

// P13.1 to P13.3: all ways of some calls on a row of little room.
func TestAllSmallWays(t *testing.T) {
	for room, calls := range []int{3, 6, 5, 4} {
		labels := 2*room + 1
		kinds := room*(labels+1) + 1
		ways := 1
		for range calls {
			ways *= kinds
		}
		for way := range ways {
			x := newBoth(t, room)
			for range calls {
				x.call(way%kinds, labels)
				way /= kinds
			}
			x.labels("called")
			for label := -1; label <= labels; label++ {
				if x.b.Count(label) != len(x.p.in[label]) {
					t.Fatalf("Count(%d) is %d, not %d", label, x.b.Count(label), len(x.p.in[label]))
				}
			}
			x.above(room - 1)
			for len(x.p.in) > 0 {
				x.highest()
				v, _, _ := x.b.Highest()
				x.drop(v)
			}
			x.highest()
		}
	}
}

// call makes the call of that number: Highest, or one on a vertex.
func (x both) call(kind, labels int) {
	x.t.Helper()
	if kind == 0 {
		x.highest()
		return
	}
	v, label := (kind-1)/(labels+1), (kind-1)%(labels+1)
	if label == labels {
		x.drop(v)
	} else {
		x.put(v, label)
	}
}

// P13.1, P13.2: many calls, each held against what the plain row tells.
func TestManyCalls(t *testing.T) {
	for seed, room := range []int{0, 1, 2, 3, 5, 9, 31, 65, 130} {
		for _, labels := range []int{3, room + 2, 2*room + 3} { // often alike, or beyond what there is
			x := newBoth(t, room)
			count := 30*room + 100
			kinds := scatter.Below(uint64(seed)+1, count, 8)
			vertices := scatter.Below(uint64(seed)+2, count, room+2)
			places := scatter.Below(uint64(seed)+3, count, labels)
			for i, kind := range kinds {
				v, label := vertices[i]-1, places[i]-1
				switch {
				case kind < 4:
					x.put(v, label)
				case kind < 5 || kind < 6 && i > count/2:
					x.drop(v)
				case kind < 7:
					x.highest()
				default:
					x.above(label)
				}
				if i%29 == 0 {
					x.same("called")
				}
			}
			x.same("many calls")
			x.drain()
		}
	}
}

// P13.3: what is taken from the highest bucket, one behind the other, falls by labels, and of one bucket the one that came last is taken first; each comes once.
func TestTakenInOrder(t *testing.T) {
	for _, n := range rooms {
		for _, kinds := range []int{1, 7, 2*n + 1} {
			b, labels := New(n), scatter.Below(uint64(n)+1, n, min(kinds, 2*n+1))
			want := make([]int, n)
			for i := range n {
				v := (i*7919 + n/2) % n // each one once, as 7919 is a prime above n
				b.Put(v, labels[v])
				want[n-1-i] = v
			}
			slices.SortStableFunc(want, func(u, v int) int { return labels[v] - labels[u] })
			for i, v := range want {
				if got, label, ok := b.Highest(); got != v || label != labels[v] || !ok || b.Len() != n-i {
					t.Fatalf("%d, place %d: %d, %d, %v, not %d, %d", n, i, got, label, ok, v, labels[v])
				}
				if !b.Drop(v) {
					t.Fatalf("%d: Drop(%d)", n, v)
				}
			}
			if v, label, ok := b.Highest(); v != 0 || label != 0 || ok {
				t.Fatalf("%d: %d, %d, %v behind all", n, v, label, ok)
			}
		}
	}
}

// P13.3: the order holds where what is taken puts others in, below it, and now and then comes again a little higher.
func TestTakenBetweenPuts(t *testing.T) {
	for _, n := range []int{2, 5, 65, 130} {
		x := newBoth(t, n)
		vertices := scatter.Below(uint64(n), 20*n, n)
		for v := range n {
			x.put(v, v%3)
		}
		for i, u := range vertices {
			v, label, ok := x.b.Highest()
			x.highest()
			if !ok {
				break
			}
			x.drop(v)
			if i%4 < 3 {
				x.put(v, min(label+1, 2*n))
			} else {
				x.put(u, max(label-1, 0))
			}
		}
		x.same("taken")
		x.drain()
	}
}

// P13.2: a vertex that rises far above all others is found at each step, and so is who is left below; it is sought no higher than it may be, and the way down is gone once only.
func TestRising(t *testing.T) {
	b := New(api.MaxN)
	b.Put(7, 0)
	for label := range 2*api.MaxN + 1 {
		b.Drop(9)
		b.Put(9, label)
		if b.high != label+1 {
			t.Fatalf("%d: sought below %d", label, b.high)
		}
		if v, high, ok := b.Highest(); v != 9 || high != label || !ok || b.Label(7) != 0 {
			t.Fatalf("%d: %d, %d, %v", label, v, high, ok)
		}
	}
	b.Drop(9)
	for range 3 {
		if v, high, ok := b.Highest(); v != 7 || high != 0 || !ok || b.high != 1 {
			t.Fatalf("%d, %d, %v, sought below %d", v, high, ok, b.high)
		}
	}
	b.Drop(7)
	if v, high, ok := b.Highest(); v != 0 || high != 0 || ok || b.high != 0 {
		t.Fatalf("%d, %d, %v, sought below %d", v, high, ok, b.high)
	}
}

// P13.1, P13.2: of nil there is nothing.
func TestNil(t *testing.T) {
	var none *Row
	for _, v := range append(noVertices(0), 0, 1) {
		for _, label := range append(noLabels(0), 0, 1) {
			if none.Put(v, label) {
				t.Errorf("Put(%d, %d)", v, label)
			}
		}
		if none.Drop(v) || none.Label(v) != -1 || none.Count(v) != 0 || len(none.Above(v)) != 0 {
			t.Errorf("%d", v)
		}
	}
	if v, label, ok := none.Highest(); v != 0 || label != 0 || ok {
		t.Error("Highest")
	}
	if none.Len() != 0 {
		t.Error("Len")
	}
}

// P5: rows do not hang on one another, and the same calls are answered alike.
func TestRowsApart(t *testing.T) {
	a, b, c := newBoth(t, 6), newBoth(t, 6), newBoth(t, 6)
	for v := range 6 {
		a.put(v, v*5%6)
		c.put(5-v, v%2)
		b.put(v, v*5%6)
	}
	a.drop(2)
	c.put(2, 12)
	b.drop(2)
	c.drop(4)
	a.put(3, 5)
	b.put(3, 5)
	a.same("a")
	b.same("b")
	c.same("c")
	a.drain()
	c.drain()
	b.same("b, when the others are drained")
	b.drain()
	newBoth(t, 6).same("another one")
}
