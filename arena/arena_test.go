package arena

import (
	"math"
	"slices"
	"testing"

	"strait/scatter"
)

// rooms are some of all sizes, but for the most there is.
var rooms = []int{0, 1, 2, 3, 4, 5, 7, 8, 9, 31, 64, 65, 130, 1000, 4096, 4097}

// noCells are numbers that are no cells, however many are given.
var noCells = []int{-1, -2, -64, -4096, math.MinInt32, -1 << 32, math.MinInt, math.MinInt + 1, 1 << 20, 1<<20 + 1, 1 << 31, 1 << 32, 1<<32 + 1, math.MaxInt}

// plain tells what is in each cell that is given, and keeps the free list apart, the first one at its end.
type plain[T comparable] struct {
	room, ever int
	what       map[int]T
	free       []int
}

func newPlain[T comparable](room int) *plain[T] {
	return &plain[T]{room: room, what: map[int]T{}}
}

func (p *plain[T]) give(x T) (int, bool) {
	n := p.ever
	switch last := len(p.free) - 1; {
	case last >= 0:
		n, p.free = p.free[last], p.free[:last]
	case n == p.room:
		return 0, false
	default:
		p.ever++
	}
	p.what[n] = x
	return n, true
}

func (p *plain[T]) release(n int) (T, bool) {
	x, ok := p.what[n]
	if ok {
		delete(p.what, n)
		p.free = append(p.free, n)
	}
	return x, ok
}

func (p *plain[T]) set(n int, x T) bool {
	_, ok := p.what[n]
	if ok {
		p.what[n] = x
	}
	return ok
}

func (p *plain[T]) live() []int {
	l := make([]int, 0, len(p.what))
	for n := range p.what {
		l = append(l, n)
	}
	slices.Sort(l)
	return l
}

// holds looks whether a has just the cells of p, by all that tells of them.
func holds[T comparable](t *testing.T, what string, a *Arena[T], p *plain[T]) {
	t.Helper()
	if a == nil {
		t.Fatalf("%s: nil", what)
	}
	if a.Len() != len(p.what) || a.Room() != p.room {
		t.Fatalf("%s: %d of %d are given, not %d of %d", what, a.Len(), a.Room(), len(p.what), p.room)
	}
	if got := a.Live(); !slices.Equal(got, p.live()) {
		t.Fatalf("%s: %v are given, not %v", what, got, p.live())
	}
	var none T
	for n := range p.room + 3 {
		want, given := p.what[n]
		if x, ok := a.At(n); x != want || ok != given {
			t.Fatalf("%s: in %d is %v, %v, not %v, %v", what, n, x, ok, want, given)
		}
		if given {
			continue
		}
		if x, ok := a.Free(n); x != none || ok || a.Set(n, none) {
			t.Fatalf("%s: %d is given", what, n)
		}
	}
	hasNot(t, what, a, noCells)
	if a.Len() != len(p.what) {
		t.Fatalf("%s: %d are given, after it was asked for others", what, a.Len())
	}
}

// hasNot looks whether none of these is a cell that is given.
func hasNot[T comparable](t *testing.T, what string, a *Arena[T], numbers []int) {
	t.Helper()
	var none T
	for _, n := range numbers {
		if x, ok := a.At(n); x != none || ok {
			t.Fatalf("%s: At(%d) is %v, %v", what, n, x, ok)
		}
		if x, ok := a.Free(n); x != none || ok {
			t.Fatalf("%s: Free(%d) is %v, %v", what, n, x, ok)
		}
		if a.Set(n, none) {
			t.Fatalf("%s: Set(%d)", what, n)
		}
	}
}

// full is an arena of so much room, with 10 n + 1 in each cell n.
func full(t *testing.T, room int) (*Arena[int], *plain[int]) {
	t.Helper()
	a, p := New[int](room), newPlain[int](room)
	for i := range room {
		p.give(10*i + 1)
		if n, ok := a.Give(10*i + 1); n != i || !ok {
			t.Fatalf("%d: Give is %d, %v, not %d", room, n, ok, i)
		}
	}
	return a, p
}

// P11.1: no cell is given, and there is as much room as was asked for, as far as there is any.
func TestNew(t *testing.T) {
	for _, room := range rooms {
		holds(t, "New", New[int](room), newPlain[int](room))
		holds(t, "New", New[string](room), newPlain[string](room))
	}
	for _, c := range []struct{ asked, room int }{
		{-1, 0}, {-2, 0}, {-4096, 0}, {-1 << 20, 0}, {-1 << 32, 0}, {math.MinInt, 0},
		{1<<20 - 1, 1<<20 - 1}, {1 << 20, 1 << 20}, {1<<20 + 1, 1 << 20}, {1 << 21, 1 << 20}, {1 << 32, 1 << 20}, {1<<32 + 1, 1 << 20}, {math.MaxInt, 1 << 20},
	} {
		a := New[int](c.asked)
		if a.Room() != c.room || a.Len() != 0 || len(a.Live()) != 0 {
			t.Errorf("New(%d): %d of %d", c.asked, a.Len(), a.Room())
		}
		hasNot(t, "New", a, append(noCells, 0, 1, c.room-1, c.room, c.room+1))
		if n, ok := a.Give(7); n != 0 || ok != (c.room > 0) {
			t.Errorf("New(%d): Give is %d, %v", c.asked, n, ok)
		}
	}
}

// P11.1: the example of the chapter.
func TestExample(t *testing.T) {
	a := New[string](9)
	a.Give("a")
	a.Give("b")
	if x, ok := a.Free(0); x != "a" || !ok {
		t.Errorf("Free: %q, %v", x, ok)
	}
	if n, ok := a.Give("c"); n != 0 || !ok {
		t.Errorf("Give: %d, %v", n, ok)
	}
	holds(t, "a, b, c", a, &plain[string]{room: 9, ever: 2, what: map[int]string{0: "c", 1: "b"}})
}

// P11.1: where nothing was freed the numbers come from 0 on, till all are given, and then there is 0 and false.
func TestGive(t *testing.T) {
	for _, room := range rooms {
		a, p := full(t, room)
		holds(t, "full", a, p)
		for range 3 {
			if n, ok := a.Give(5); n != 0 || ok {
				t.Fatalf("%d: beyond all, Give is %d, %v", room, n, ok)
			}
		}
		holds(t, "still full", a, p)
	}
}

// P11.1: the most there may be are all given, and freed and given again.
func TestMost(t *testing.T) {
	const all = 1 << 20
	a := New[int](math.MaxInt)
	for i := range all {
		if n, ok := a.Give(^i); n != i || !ok {
			t.Fatalf("Give is %d, %v, not %d", n, ok, i)
		}
	}
	if n, ok := a.Give(1); n != 0 || ok || a.Len() != all || len(a.Live()) != all {
		t.Fatalf("beyond all: %d, %v, %d", n, ok, a.Len())
	}
	hasNot(t, "beyond all", a, noCells)
	for n := range all {
		if x, ok := a.Free(n); x != ^n || !ok {
			t.Fatalf("Free(%d) is %d, %v", n, x, ok)
		}
	}
	if a.Len() != 0 || len(a.Live()) != 0 {
		t.Fatalf("all are free: %d", a.Len())
	}
	for i := range all {
		if n, ok := a.Give(i); n != all-1-i || !ok {
			t.Fatalf("Give is %d, %v, not %d", n, ok, all-1-i)
		}
	}
	if _, ok := a.Give(1); ok {
		t.Fatal("beyond all, again")
	}
}

// P11.1: the number that was freed last is given first, and numbers that were never given come behind all that were freed.
func TestFreeList(t *testing.T) {
	a := New[int](7)
	for i := range 5 {
		a.Give(i)
	}
	for _, n := range []int{1, 4, 0, 3} {
		if x, ok := a.Free(n); x != n || !ok {
			t.Fatalf("Free(%d): %d, %v", n, x, ok)
		}
	}
	for _, want := range []int{3, 0, 4, 1, 5, 6} {
		if n, ok := a.Give(50 + want); n != want || !ok {
			t.Fatalf("Give: %d, %v, not %d", n, ok, want)
		}
	}
	if n, ok := a.Give(9); n != 0 || ok {
		t.Fatalf("beyond all: %d, %v", n, ok)
	}
	holds(t, "full", a, &plain[int]{room: 7, ever: 7, what: map[int]int{0: 50, 1: 51, 2: 2, 3: 53, 4: 54, 5: 55, 6: 56}})
}

// P11.1: what comes in between stands ahead on the free list, not behind.
func TestFreeListInTurns(t *testing.T) {
	a := New[string](4)
	for _, s := range []string{"a", "b", "c"} {
		a.Give(s)
	}
	a.Free(0)
	a.Free(2)
	if n, _ := a.Give("d"); n != 2 {
		t.Errorf("d: %d", n)
	}
	a.Free(1)
	a.Free(2)
	for _, want := range []int{2, 1, 0, 3} {
		if n, ok := a.Give("e"); n != want || !ok {
			t.Errorf("e: %d, %v, not %d", n, ok, want)
		}
	}
	if _, ok := a.Give("f"); ok {
		t.Error("f")
	}
}

// P11.1: a cell that is freed twice is on the free list once.
func TestFreeTwice(t *testing.T) {
	a := New[int](3)
	a.Give(10)
	a.Give(20)
	a.Free(0)
	for range 3 {
		if x, ok := a.Free(0); x != 0 || ok || a.Len() != 1 {
			t.Fatalf("%d, %v: %d are given", x, ok, a.Len())
		}
	}
	if n, ok := a.Give(30); n != 0 || !ok {
		t.Fatalf("%d, %v", n, ok)
	}
	if n, ok := a.Give(40); n != 2 || !ok {
		t.Fatalf("%d, %v", n, ok)
	}
	if _, ok := a.Give(50); ok {
		t.Fatal("beyond all")
	}
}

// P11.1, P11.2: a number that was never given is no cell, be there room for it or not, and isn't put on the free list.
func TestNeverGiven(t *testing.T) {
	for _, room := range rooms {
		for _, given := range []int{0, 1, room / 2, room - 1, room} {
			if given < 0 || given > room {
				continue
			}
			a, p := New[int](room), newPlain[int](room)
			for i := range given {
				a.Give(i)
				p.give(i)
			}
			hasNot(t, "never given", a, append(noCells, given, given+1, room, room+1, given-room-1))
			holds(t, "never given", a, p)
			if n, ok := a.Give(-5); ok != (given < room) || ok && n != given {
				t.Fatalf("%d of %d: Give is %d, %v", given, room, n, ok)
			}
		}
	}
}

// P11.2: what is put into a cell is in it and in no other one; a cell that is not given is none, and stays so.
func TestSet(t *testing.T) {
	a, p := full(t, 5)
	a.Free(3)
	p.release(3)
	for _, c := range []struct {
		n, x int
		ok   bool
	}{
		{0, 7, true}, {4, 8, true}, {4, 9, true}, {1, 0, true}, {3, 6, false}, {5, 6, false}, {-1, 6, false},
	} {
		p.set(c.n, c.x)
		if a.Set(c.n, c.x) != c.ok {
			t.Errorf("Set(%d, %d) is %v", c.n, c.x, !c.ok)
		}
		holds(t, "Set", a, p)
	}
	if n, ok := a.Give(77); n != 3 || !ok {
		t.Errorf("Give: %d, %v", n, ok)
	}
	if x, ok := a.Free(4); x != 9 || !ok {
		t.Errorf("Free: %d, %v", x, ok)
	}
}

// P11.2: a zero value that was given is in its cell, which is given.
func TestZeroValues(t *testing.T) {
	a := New[string](2)
	a.Give("")
	if x, ok := a.At(0); x != "" || !ok || a.Len() != 1 || !a.Set(0, "") {
		t.Error("given")
	}
	if x, ok := a.Free(0); x != "" || !ok || a.Len() != 0 {
		t.Error("freed")
	}
	if _, ok := a.At(0); ok || a.Set(0, "") || len(a.Live()) != 0 {
		t.Error("free")
	}
}

// P11.2: the numbers rise, in whatever order the cells were given and freed.
func TestLive(t *testing.T) {
	a, _ := full(t, 6)
	for _, n := range []int{4, 0, 2, 5} {
		a.Free(n)
	}
	if got := a.Live(); !slices.Equal(got, []int{1, 3}) {
		t.Errorf("%v", got)
	}
	a.Give(1)
	a.Give(1)
	if got := a.Live(); !slices.Equal(got, []int{1, 2, 3, 5}) {
		t.Errorf("%v", got)
	}
}

// P11.1, P11.2: all ways of up to seven calls on an arena of so little room.
func TestAllSmallWays(t *testing.T) {
	for room := range 4 {
		kinds := 2 + room // Give, Free of each number and of one beyond
		ways := 1
		for range 7 {
			ways *= kinds
		}
		for way := range ways {
			a, p := New[int](room), newPlain[int](room)
			for i := range 7 {
				step(t, a, p, way%kinds-1, i+1)
				way /= kinds
			}
			if a.Len() != len(p.what) || !slices.Equal(a.Live(), p.live()) {
				t.Fatalf("room %d: %v, not %v", room, a.Live(), p.live())
			}
		}
	}
}

// step frees cell n, or gives x where n is below 0, and holds both answers against each other.
func step(t *testing.T, a *Arena[int], p *plain[int], n, x int) {
	t.Helper()
	if n < 0 {
		got, ok := a.Give(x)
		if want, given := p.give(x); got != want || ok != given {
			t.Fatalf("Give(%d) is %d, %v, not %d, %v", x, got, ok, want, given)
		}
		return
	}
	got, ok := a.Free(n)
	if want, given := p.release(n); got != want || ok != given {
		t.Fatalf("Free(%d) is %d, %v, not %d, %v", n, got, ok, want, given)
	}
}

// P11.1, P11.2: many calls, each held against what the plain cells tell.
func TestManyCalls(t *testing.T) {
	for seed, room := range rooms {
		a, p := New[int](room), newPlain[int](room)
		count := 5*min(room, 600) + 100
		kinds, numbers := scatter.Below(uint64(seed)+3, count, 10), scatter.Below(uint64(seed)+99, count, room+4)
		for i, kind := range kinds {
			n := numbers[i] - 2 // from -2 to one beyond the last
			more := 6           // first more is given than freed, then less
			if i > count/2 {
				more = 3
			}
			switch {
			case kind < more:
				step(t, a, p, -1, i)
			case kind < 9:
				step(t, a, p, max(n, 0), i)
			default:
				if got := a.Set(n, i); got != p.set(n, i) {
					t.Fatalf("room %d, call %d: Set(%d) is %v", room, i, n, got)
				}
			}
			want, given := p.what[n]
			if x, ok := a.At(n); x != want || ok != given {
				t.Fatalf("room %d, call %d: At(%d) is %d, %v", room, i, n, x, ok)
			}
			if i%97 == 0 {
				holds(t, "on the way", a, p)
			}
		}
		holds(t, "at last", a, p)
	}
}

// P11.3: no number is given that some cell has, and each cell keeps what was put into it till it is freed.
func TestNumbersApart(t *testing.T) {
	for _, room := range rooms {
		a, held := New[int](room), map[int]int{}
		for i, n := range scatter.Below(17, 4*min(room, 900)+40, 2*room+2) {
			if x, given := held[n]; given {
				if got, ok := a.Free(n); got != x || !ok {
					t.Fatalf("room %d: in %d is %d, not %d", room, n, got, x)
				}
				delete(held, n)
				continue
			}
			n, ok := a.Give(i)
			if !ok {
				if len(held) != room {
					t.Fatalf("room %d: only %d are given", room, len(held))
				}
				continue
			}
			if x, given := held[n]; given || n < 0 || n >= room {
				t.Fatalf("room %d: %d is given again, with %d in it", room, n, x)
			}
			held[n] = i
		}
		for n, x := range held {
			if got, ok := a.At(n); got != x || !ok {
				t.Fatalf("room %d: in %d is %d, not %d", room, n, got, x)
			}
		}
	}
}

// P11.1, P11.2: cells may hold whatever a type can be.
func TestTypes(t *testing.T) {
	type pair struct {
		name string
		at   [2]int
	}
	a, p := New[pair](3), newPlain[pair](3)
	for _, x := range []pair{{"a", [2]int{1, 2}}, {}, {"", [2]int{3, 4}}} {
		a.Give(x)
		p.give(x)
	}
	holds(t, "structs", a, p)
	n := 5
	pointers := New[*int](2)
	pointers.Give(&n)
	pointers.Give(nil)
	if x, ok := pointers.At(0); x != &n || !ok {
		t.Error("a pointer")
	}
	if x, ok := pointers.Free(1); x != nil || !ok {
		t.Error("a pointer to nothing")
	}
	nothing := New[struct{}](2)
	nothing.Give(struct{}{})
	if _, ok := nothing.Give(struct{}{}); !ok || nothing.Len() != 2 {
		t.Error("structs of nothing")
	}
	errs := New[error](1)
	if _, ok := errs.Give(nil); !ok {
		t.Error("no error")
	}
	if x, ok := errs.At(0); x != nil || !ok {
		t.Error("no error, in a cell")
	}
	calls := New[func() int](1)
	calls.Give(func() int { return 7 })
	if x, ok := calls.At(0); !ok || x() != 7 {
		t.Error("a function")
	}
	floats := New[float64](1)
	floats.Give(math.NaN())
	if x, ok := floats.Free(0); !ok || x == x {
		t.Error("no number")
	}
}

// P4: a list that is put in is not changed by it.
func TestListsInCells(t *testing.T) {
	a, l := New[[]int](2), []int{1, 2, 3}
	a.Give(l[:2])
	a.Give(nil)
	if x, ok := a.At(0); !slices.Equal(x, []int{1, 2}) || !ok {
		t.Errorf("%v", x)
	}
	if x, ok := a.Free(0); !slices.Equal(x, []int{1, 2}) || !ok {
		t.Errorf("%v", x)
	}
	if x, ok := a.Free(1); x != nil || !ok {
		t.Errorf("%v", x)
	}
	if !slices.Equal(l, []int{1, 2, 3}) {
		t.Errorf("%v", l)
	}
}

// A cell that is free holds on to nothing that was in it.
func TestFreeCellsHoldNothing(t *testing.T) {
	a, x := New[*int](3), 5
	for range 3 {
		a.Give(&x)
	}
	for n := range 3 {
		a.Free(n)
		if a.cells[n].what != nil {
			t.Errorf("%d", n)
		}
	}
}

// P11.2: of nil there is nothing.
func TestNil(t *testing.T) {
	var none *Arena[string]
	for _, n := range append(noCells, 0, 1, 2) {
		if x, ok := none.At(n); x != "" || ok {
			t.Errorf("At(%d)", n)
		}
		if x, ok := none.Free(n); x != "" || ok {
			t.Errorf("Free(%d)", n)
		}
		if none.Set(n, "x") {
			t.Errorf("Set(%d)", n)
		}
	}
	if n, ok := none.Give("x"); n != 0 || ok {
		t.Errorf("Give: %d, %v", n, ok)
	}
	if none.Len() != 0 || none.Room() != 0 || len(none.Live()) != 0 {
		t.Error("cells, room")
	}
}

// P4: the lists that are answered are new memory.
func TestListsAreNew(t *testing.T) {
	a, p := full(t, 4)
	a.Free(2)
	p.release(2)
	one, other := a.Live(), a.Live()
	for i := range one {
		one[i] = 90
	}
	_ = append(one[:0], 70, 71, 72, 73)
	if !slices.Equal(other, []int{0, 1, 3}) {
		t.Errorf("%v", other)
	}
	holds(t, "told", a, p)
	a.Give(5)
	a.Free(0)
	if !slices.Equal(other, []int{0, 1, 3}) {
		t.Errorf("%v", other)
	}
}

// P5: cells of one call do not hang on those of another one.
func TestArenasApart(t *testing.T) {
	a, p := full(t, 4)
	b, q := full(t, 4)
	a.Free(1)
	p.release(1)
	b.Set(1, 99)
	q.set(1, 99)
	b.Free(3)
	q.release(3)
	holds(t, "a", a, p)
	holds(t, "b", b, q)
	if n, _ := a.Give(0); n != 1 {
		t.Errorf("a: %d", n)
	}
	if n, _ := b.Give(0); n != 3 {
		t.Errorf("b: %d", n)
	}
	holds(t, "another one", New[int](4), newPlain[int](4))
}
