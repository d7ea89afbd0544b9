package vset

import (
	"math"
	"slices"
	"testing"

	"strait/api"
	"strait/scatter"
)

// rooms are some of all sizes: all small ones, and those about the brinks of words and the most there is.
func rooms() []int {
	var l []int
	for n := range 70 {
		l = append(l, n)
	}
	for _, n := range []int{128, 192, 1024, api.MaxN} {
		l = append(l, n-2, n-1, n)
	}
	return append(l, 129, 193, 1025)
}

// noVertices are numbers for which there is no room where there is room for n vertices.
func noVertices(n int) []int {
	return []int{-1, -2, -63, -64, -65, -4096, math.MinInt, math.MinInt + 1, n, n + 1, n + 63, n + 64, n + 65, api.MaxN, api.MaxN + 1, 1 << 31, 1 << 32, math.MaxInt}
}

// some are lists of vertices of a room of n, rising: none, all, some by rules, and some by chance.
func some(n int) [][]int {
	var all, even, third, high []int
	for v := range n {
		all = append(all, v)
		if v%2 == 0 {
			even = append(even, v)
		}
		if v%3 == 1 {
			third = append(third, v)
		}
		if v >= n/2 {
			high = append(high, v)
		}
	}
	lists := [][]int{nil, all, even, third, high}
	if n > 0 {
		chance := scatter.Below(1, n/2+1, n)
		slices.Sort(chance)
		lists = append(lists, []int{0}, []int{n - 1}, all[1:], all[:n-1], slices.Compact(chance))
	}
	return lists
}

// left are the numbers from 0 to n - 1 that are not in l.
func left(n int, l []int) []int {
	in := make([]bool, n)
	for _, v := range l {
		in[v] = true
	}
	var others []int
	for v := range n {
		if !in[v] {
			others = append(others, v)
		}
	}
	return others
}

// holds looks whether s is a set with that room and just the vertices of l, which rise, by all that tells of it.
func holds(t *testing.T, what string, s *Set, room int, l []int) {
	t.Helper()
	if s == nil {
		t.Fatalf("%s: nil", what)
	}
	if s.Room() != room {
		t.Fatalf("%s: room %d, not %d", what, s.Room(), room)
	}
	if s.Len() != len(l) {
		t.Fatalf("%s: %d vertices, not %d", what, s.Len(), len(l))
	}
	if !slices.Equal(s.List(), l) {
		t.Fatalf("%s: %v, not %v", what, s.List(), l)
	}
	in := make([]bool, room)
	for _, v := range l {
		in[v] = true
	}
	for v := range room {
		if s.Has(v) != in[v] {
			t.Fatalf("%s: Has(%d) is %v", what, v, s.Has(v))
		}
	}
	for _, v := range noVertices(room) {
		if s.Has(v) {
			t.Fatalf("%s: Has(%d)", what, v)
		}
	}
}

// P9.1: a new set is empty and has the room that was asked for, as far as there is any.
func TestNew(t *testing.T) {
	for _, n := range rooms() {
		holds(t, "New", New(n), n, nil)
	}
	for _, c := range []struct{ n, room int }{
		{-1, 0}, {-5, 0}, {-4096, 0}, {math.MinInt, 0},
		{4095, 4095}, {4096, 4096}, {4097, 4096}, {5000, 4096}, {1 << 32, 4096}, {math.MaxInt, 4096},
	} {
		holds(t, "New", New(c.n), c.room, nil)
		holds(t, "Of", Of(c.n, nil), c.room, nil)
	}
}

// P9.1: below no room and above the most, there is room for none and for the last one.
func TestRoomBeyondTheEnds(t *testing.T) {
	if s := New(-3); s.Put(0) || s.Put(-1) || s.Put(-3) || s.Len() != 0 {
		t.Error("-3")
	}
	s := New(math.MaxInt)
	if !s.Put(4095) || s.Put(4096) || s.Put(math.MaxInt) {
		t.Error("MaxInt")
	}
	holds(t, "MaxInt", s, 4096, []int{4095})
	holds(t, "Of -1", Of(-1, []int{-1, 0, 1}), 0, nil)
	holds(t, "Of 5000", Of(5000, []int{4999, 4096, 4095, 0}), 4096, []int{0, 4095})
}

// P9.1: Of takes those for which there is room, in any order, however often they stand there.
func TestOf(t *testing.T) {
	for _, c := range []struct {
		n    int
		l    []int
		want []int
	}{
		{0, []int{0, 1, -1}, nil},
		{1, []int{0}, []int{0}},
		{1, []int{1, 0, -1, 0}, []int{0}},
		{3, []int{0, 2}, []int{0, 2}},
		{3, []int{2, 0, 2, 0, 0}, []int{0, 2}},
		{3, []int{3, 2, 1, 4}, []int{1, 2}},
		{5, []int{math.MinInt, 4, math.MaxInt, 0, -4}, []int{0, 4}},
		{130, []int{129, 0, 64, 0, 130, -1}, []int{0, 64, 129}},
		{64, []int{64, 63, 128, 127}, []int{63}},
		{65, []int{64, 63, 128, 127}, []int{63, 64}},
	} {
		holds(t, "Of", Of(c.n, c.l), c.n, c.want)
	}
	for _, n := range rooms() {
		for _, l := range some(n) {
			turned := slices.Clone(l)
			slices.Reverse(turned)
			holds(t, "Of", Of(n, l), n, l)
			holds(t, "Of, turned", Of(n, turned), n, l)
			mixed := slices.Concat(noVertices(n), turned, []int{n, n + 1}, l, []int{-1})
			holds(t, "Of, mixed", Of(n, mixed), n, l)
		}
	}
}

// P9.1: a vertex comes in once and goes out once, and no other one does with it.
func TestPutAndDrop(t *testing.T) {
	for _, n := range rooms() {
		for v := range n {
			if n > 70 && v%37 > 2 && v < n-3 {
				continue
			}
			s := New(n)
			if s.Drop(v) {
				t.Fatalf("%d of %d: dropped ahead of all", v, n)
			}
			if !s.Put(v) || s.Put(v) {
				t.Fatalf("%d of %d: Put", v, n)
			}
			if !slices.Equal(s.List(), []int{v}) || s.Len() != 1 || !s.Has(v) {
				t.Fatalf("%d of %d: %v", v, n, s.List())
			}
			if !s.Drop(v) || s.Drop(v) || s.Has(v) || s.Len() != 0 || len(s.List()) != 0 {
				t.Fatalf("%d of %d: Drop", v, n)
			}
			if !s.Put(v) || !s.Has(v) {
				t.Fatalf("%d of %d: put again", v, n)
			}
		}
	}
}

// P9.1: what there is no room for comes neither in nor out, and is not in.
func TestWhereThereIsNoRoom(t *testing.T) {
	for _, n := range rooms() {
		for _, l := range some(n) {
			s := Of(n, l)
			for _, v := range noVertices(n) {
				if s.Put(v) || s.Has(v) || s.Drop(v) {
					t.Fatalf("%d of %d", v, n)
				}
			}
			holds(t, "no room", s, n, l)
		}
	}
}

// P9.1: all small sets, each put together in rising and in falling order, and each vertex dropped.
func TestAllSmallSets(t *testing.T) {
	for n := range 9 {
		for set := range 1 << n {
			var l []int
			for v := range n {
				if set>>v&1 == 1 {
					l = append(l, v)
				}
			}
			s, turned := New(n), New(n)
			for i := range l {
				if !s.Put(l[i]) || !turned.Put(l[len(l)-1-i]) {
					t.Fatalf("%v: Put", l)
				}
			}
			holds(t, "rising", s, n, l)
			holds(t, "falling", turned, n, l)
			if !Same(s, turned) {
				t.Fatalf("%v: not the same", l)
			}
			for i, v := range l {
				if s := s.Twin(); !s.Drop(v) {
					t.Fatalf("%v: Drop(%d)", l, v)
				} else {
					holds(t, "dropped", s, n, slices.Delete(slices.Clone(l), i, i+1))
				}
			}
		}
	}
}

// P9.1: many calls, each held against what a list of bools tells.
func TestManyCalls(t *testing.T) {
	for _, n := range []int{1, 5, 64, 65, 130, 4096} {
		s, in, count := New(n), make([]bool, n), 0
		for i, x := range scatter.Below(1, 20000, 3*n+6) {
			v := x/3 - 1 // from -1 to n
			fits := v >= 0 && v < n
			switch was := fits && in[v]; x % 3 {
			case 0:
				if s.Put(v) != (fits && !was) {
					t.Fatalf("%d, call %d: Put(%d)", n, i, v)
				}
				if fits && !was {
					in[v], count = true, count+1
				}
			case 1:
				if s.Drop(v) != was {
					t.Fatalf("%d, call %d: Drop(%d)", n, i, v)
				}
				if was {
					in[v], count = false, count-1
				}
			default:
				if s.Has(v) != was {
					t.Fatalf("%d, call %d: Has(%d)", n, i, v)
				}
			}
			if s.Len() != count {
				t.Fatalf("%d, call %d: %d vertices, not %d", n, i, s.Len(), count)
			}
			if i%1000 == 0 {
				var l []int
				for v := range n {
					if in[v] {
						l = append(l, v)
					}
				}
				holds(t, "many", s, n, l)
			}
		}
	}
}

// P9.1: what goes over the vertices stops when no more are asked for.
func TestEachStops(t *testing.T) {
	s := Of(200, []int{0, 1, 63, 64, 130, 199})
	for stop := 1; stop <= s.Len(); stop++ {
		var l []int
		for v := range s.each {
			l = append(l, v)
			if len(l) == stop {
				break
			}
		}
		if !slices.Equal(l, s.List()[:stop]) {
			t.Errorf("%d: %v", stop, l)
		}
	}
}

// P9.2: the other one has the same room and all others; it is a set of its own.
func TestOther(t *testing.T) {
	holds(t, "room 3", Of(3, []int{0, 2}).Other(), 3, []int{1})
	for _, n := range rooms() {
		for _, l := range some(n) {
			s := Of(n, l)
			o := s.Other()
			others := left(n, l)
			holds(t, "other", o, n, others)
			holds(t, "as it was", s, n, l)
			for v := range n {
				if v < 3 || v > n-3 {
					s.Drop(v)
					holds(t, "dropped beside", o, n, others)
					s.Put(v)
					holds(t, "put beside", o, n, others)
				}
			}
			s = Of(n, l)
			for _, v := range others {
				if !o.Drop(v) {
					t.Fatalf("%d of %d: Drop", v, n)
				}
			}
			holds(t, "empty", o, n, nil)
			holds(t, "beside", s, n, l)
		}
	}
}

// P9.2: the other one takes and drops just what there is room for.
func TestOtherWithoutRoom(t *testing.T) {
	for _, n := range rooms() {
		o := New(n).Other()
		for _, v := range noVertices(n) {
			if o.Has(v) || o.Put(v) || o.Drop(v) {
				t.Fatalf("%d of %d", v, n)
			}
		}
		if o.Len() != n {
			t.Fatalf("%d: %d", n, o.Len())
		}
	}
}

// P9.2: a twin is as the set was, and neither changes with the other.
func TestTwin(t *testing.T) {
	for _, n := range rooms() {
		for _, l := range some(n) {
			s := Of(n, l)
			twin := s.Twin()
			holds(t, "twin", twin, n, l)
			if !Same(s, twin) {
				t.Fatalf("%d: %v", n, l)
			}
			others := left(n, l)
			for _, v := range others {
				s.Put(v)
			}
			for _, v := range l {
				s.Drop(v)
			}
			holds(t, "twin of a changed one", twin, n, l)
			again := s.Twin()
			for _, v := range others {
				again.Drop(v)
			}
			for _, v := range l {
				again.Put(v)
			}
			holds(t, "one with a changed twin", s, n, others)
			holds(t, "changed twin", again, n, l)
		}
	}
}

// P9.2: just sets of the same room with the same vertices are the same.
func TestSame(t *testing.T) {
	for _, n := range []int{0, 1, 2, 3, 5, 63, 64, 65, 128, 130} {
		lists := some(n)
		for i, a := range lists {
			for j, b := range lists {
				if Same(Of(n, a), Of(n, b)) != slices.Equal(a, b) {
					t.Errorf("room %d, %d and %d: %v", n, i, j, Same(Of(n, a), Of(n, b)))
				}
			}
			s := Of(n, a)
			if !Same(s, s) {
				t.Errorf("room %d: not the same as itself", n)
			}
			for _, room := range []int{n + 1, n + 2, n + 64, 4096} {
				if Same(s, Of(room, a)) || Same(Of(room, a), s) {
					t.Errorf("rooms %d and %d are the same", n, room)
				}
			}
		}
	}
}

// P9.2: sets that one vertex alone is not common to are not the same, whichever it is.
func TestSameButForOne(t *testing.T) {
	for _, n := range rooms() {
		for _, l := range some(n)[:3] {
			s := Of(n, l)
			for v := range n {
				other := s.Twin()
				if !other.Drop(v) {
					other.Put(v)
				}
				if Same(s, other) || Same(other, s) {
					t.Fatalf("%d of %d", v, n)
				}
			}
		}
	}
}

// P9.2: sets are the same whatever ways they came about, and rooms that count as one are one.
func TestSameByOtherWays(t *testing.T) {
	if !Same(New(-5), New(0)) || !Same(New(4096), New(5000)) || !Same(New(math.MinInt), Of(-1, []int{0})) {
		t.Error("rooms")
	}
	for _, n := range rooms() {
		full := New(n)
		for v := range n {
			full.Put(v)
		}
		if !Same(full, New(n).Other()) || !Same(full.Other(), New(n)) {
			t.Errorf("%d: all", n)
		}
		for v := range n {
			full.Drop(v)
		}
		if !Same(full, New(n)) {
			t.Errorf("%d: none", n)
		}
	}
}

// P9.2: a set parts two for which it has room, if just one of them is in it.
func TestParts(t *testing.T) {
	for _, n := range []int{0, 1, 2, 3, 7, 64, 65, 130} {
		for _, l := range some(n) {
			s := Of(n, l)
			for u := -2; u < n+3; u++ {
				for v := -2; v < n+3; v++ {
					fit := u >= 0 && u < n && v >= 0 && v < n
					want := fit && slices.Contains(l, u) != slices.Contains(l, v)
					if Parts(s, u, v) != want {
						t.Fatalf("room %d, %d and %d: %v", n, u, v, !want)
					}
				}
			}
			for _, v := range noVertices(n) {
				for u := range n {
					if Parts(s, u, v) || Parts(s, v, u) || Parts(s, v, v) {
						t.Fatalf("room %d, %d and %d", n, u, v)
					}
				}
			}
			holds(t, "asked", s, n, l)
		}
	}
}

// P9.2: the last vertex there can be is parted like any other one.
func TestPartsAtTheMost(t *testing.T) {
	s := Of(4096, []int{4095})
	if !Parts(s, 4095, 0) || !Parts(s, 4094, 4095) || Parts(s, 4095, 4095) || Parts(s, 4095, 4096) || Parts(s, 4096, 4095) || Parts(s, 1, 2) {
		t.Error("4095")
	}
}

// P9.1, P9.2: of nil there is nothing.
func TestNil(t *testing.T) {
	var none *Set
	for _, v := range append(noVertices(0), 3) {
		if none.Put(v) || none.Drop(v) || none.Has(v) || Parts(none, v, 0) || Parts(none, 0, v) {
			t.Errorf("%d", v)
		}
	}
	if none.Room() != 0 || none.Len() != 0 || len(none.List()) != 0 {
		t.Error("room, vertices")
	}
	if none.Other() != nil || none.Twin() != nil {
		t.Error("Other, Twin")
	}
	if !Same(nil, nil) || !Same(none, nil) || !Same(none, none) {
		t.Error("nil ones")
	}
	for _, s := range []*Set{New(0), New(3), Of(3, []int{0}), Of(3, nil).Other()} {
		if Same(nil, s) || Same(s, nil) {
			t.Error("nil and another one")
		}
	}
	if none.Room() != 0 || New(0).Other() == nil || New(0).Twin() == nil {
		t.Error("an empty one is not nil")
	}
}

// P9.3: the other one of the other one is the same; both have all vertices, each once.
func TestOtherOfTheOther(t *testing.T) {
	for _, n := range rooms() {
		for _, l := range some(n) {
			s := Of(n, l)
			o := s.Other()
			if !Same(o.Other(), s) || !Same(o.Other().Other(), o) {
				t.Fatalf("room %d: %v", n, l)
			}
			if n > 0 && Same(o, s) || n == 0 && !Same(o, s) {
				t.Fatalf("room %d: the other one of %v", n, l)
			}
			both := slices.Concat(s.List(), o.List())
			slices.Sort(both)
			if !slices.Equal(both, left(n, nil)) || s.Len()+o.Len() != n {
				t.Fatalf("room %d: both are %v", n, both)
			}
			for v := range n {
				if s.Has(v) == o.Has(v) {
					t.Fatalf("room %d: %d is in both or in none", n, v)
				}
			}
		}
	}
}

// P4: the list that Of is handed is neither changed nor kept, and what lies behind its length is not read.
func TestListsAreLeftAlone(t *testing.T) {
	room := []int{5, 2, 2, -1, 0, 3, 4}
	was := slices.Clone(room)
	s := Of(6, room[:4])
	holds(t, "of a part", s, 6, []int{2, 5})
	if !slices.Equal(room, was) {
		t.Errorf("%v", room)
	}
	room[0], room[1] = 1, 1
	holds(t, "of a changed one", s, 6, []int{2, 5})
	s.Put(0)
	if !slices.Equal(room[2:], was[2:]) || room[0] != 1 || room[1] != 1 {
		t.Errorf("%v", room)
	}
}

// P4: each list that is answered is new memory.
func TestListsAreNew(t *testing.T) {
	s := Of(130, []int{0, 64, 129})
	a, b := s.List(), s.List()
	a[0], a[1] = 7, 8
	_ = append(a[:1], 9)
	if !slices.Equal(b, []int{0, 64, 129}) {
		t.Errorf("%v", b)
	}
	holds(t, "told", s, 130, []int{0, 64, 129})
	s.Drop(64)
	if !slices.Equal(b, []int{0, 64, 129}) {
		t.Errorf("%v", b)
	}
}

// P5: sets do not hang on one another.
func TestSetsApart(t *testing.T) {
	a, b := New(70), New(70)
	a.Put(3)
	b.Put(69)
	holds(t, "a", a, 70, []int{3})
	holds(t, "b", b, 70, []int{69})
	c := Of(70, a.List())
	c.Drop(3)
	holds(t, "a beside c", a, 70, []int{3})
}
