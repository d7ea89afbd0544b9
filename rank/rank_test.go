package rank

import (
	"math"
	"slices"
	"testing"

	"strait/lists"
	"strait/scatter"
)

// brinks are keys at the ends of what fits, of which no two may be taken away from one another.
var brinks = []int64{math.MinInt64, math.MinInt64 + 1, math.MinInt32, -1 << 32, -1, 0, 1, 1 << 31, 1 << 32, math.MaxInt64 - 1, math.MaxInt64}

// noPlaces are numbers that are no places of n things.
func noPlaces(n int) []int {
	return []int{-1, -2, -n - 1, math.MinInt32, -1 << 32, math.MinInt, math.MinInt + 1, n, n + 1, 2*n + 1, 1 << 31, 1 << 32, 1<<32 + 1, math.MaxInt - 1, math.MaxInt}
}

// eachList hands on all lists of n numbers from low to high.
func eachList(n, low, high int, see func(l []int)) {
	l := make([]int, n)
	var fillFrom func(i int)
	fillFrom = func(i int) {
		if i == n {
			see(l)
			return
		}
		for x := low; x <= high; x++ {
			l[i] = x
			fillFrom(i + 1)
		}
	}
	fillFrom(0)
}

// asKeys tells the key of each number.
func asKeys(l []int, key func(x int) int64) []int64 {
	keys := make([]int64, len(l))
	for i, x := range l {
		keys[i] = key(x)
	}
	return keys
}

// longKeys are lists of keys of many lengths: scattered and in a row, with few unlike ones and with many.
func longKeys() [][]int64 {
	var all [][]int64
	for seed, n := range []int{11, 12, 13, 14, 33, 49, 50, 51, 64, 100, 257, 1000} {
		for _, end := range []int{1, 2, 3, n/2 + 1, 7 * n} {
			l := scatter.Below(uint64(seed)+1, n, end)
			all = append(all, asKeys(l, func(x int) int64 { return int64(x - end/2) }))
			all = append(all, asKeys(l, func(x int) int64 { return brinks[x%len(brinks)] }))
		}
		row := make([]int, n)
		for i := range row {
			row[i] = i
		}
		for _, step := range []int64{1, -1} {
			all = append(all, asKeys(row, func(x int) int64 { return int64(x) * step }))
			all = append(all, asKeys(row, func(x int) int64 { return int64(x/3) * step }))
			all = append(all, asKeys(row, func(x int) int64 { return int64(x%5) * step }))
		}
		words := scatter.Words(uint64(seed)+1, n)
		all = append(all, asKeys(row, func(x int) int64 { return int64(words[x]) }))
	}
	return all
}

// standing tells of each place how many come ahead of it, with no order at hand.
func standing(keys []int64) []int {
	stands := make([]int, len(keys))
	for i, key := range keys {
		for j, other := range keys {
			if other < key || other == key && j < i {
				stands[i]++
			}
		}
	}
	return stands
}

// wantOrder tells, of lists of any numbers, whether all places come once.
func wantOrder(p []int) bool {
	for place := range p {
		if !slices.Contains(p, place) {
			return false
		}
	}
	return true
}

// checkKeys holds By, Of, Median and Distinct of the keys against how many come ahead of each.
func checkKeys(t *testing.T, keys []int64) {
	t.Helper()
	before := slices.Clone(keys)
	stands := standing(keys)
	by, median, ok := make([]int, len(keys)), int64(0), len(keys) > 0
	var distinct []int64
	for i, place := range stands {
		by[place] = i
	}
	for place, i := range by {
		if place == (len(by)-1)/2 {
			median = keys[i]
		}
		if place == 0 || keys[i] != distinct[len(distinct)-1] {
			distinct = append(distinct, keys[i])
		}
	}
	if got := By(keys); !slices.Equal(got, by) {
		t.Fatalf("By(%v) is %v, not %v", keys, got, by)
	}
	if got := Of(keys); !slices.Equal(got, stands) {
		t.Fatalf("Of(%v) is %v, not %v", keys, got, stands)
	}
	if got, gotOK := Median(keys); got != median || gotOK != ok {
		t.Fatalf("Median(%v) is %d, %v, not %d, %v", keys, got, gotOK, median, ok)
	}
	if got := Distinct(keys); !slices.Equal(got, distinct) {
		t.Fatalf("Distinct(%v) is %v, not %v", keys, got, distinct)
	}
	if !slices.Equal(keys, before) {
		t.Fatalf("%v became %v", before, keys)
	}
}

// checkPlaces holds Inverse, and Apply to as many numbers, against what p is.
func checkPlaces(t *testing.T, p []int) {
	t.Helper()
	before, ok := slices.Clone(p), wantOrder(p)
	l := make([]int, len(p))
	for i := range l {
		l[i] = 70 - 3*i*i
	}
	inverse, gotOK := Inverse(p)
	if gotOK != ok || !ok && len(inverse) != 0 || ok && len(inverse) != len(p) {
		t.Fatalf("Inverse(%v) is %v, %v", p, inverse, gotOK)
	}
	applied, gotOK := Apply(p, l)
	if gotOK != ok || !ok && len(applied) != 0 || ok && len(applied) != len(p) {
		t.Fatalf("Apply(%v, %v) is %v, %v", p, l, applied, gotOK)
	}
	for i := range inverse {
		if inverse[p[i]] != i || applied[i] != l[p[i]] {
			t.Fatalf("%v: Inverse is %v, Apply to %v is %v", p, inverse, l, applied)
		}
	}
	for i := range l {
		if l[i] != 70-3*i*i {
			t.Fatalf("Apply(%v) left %v", p, l)
		}
	}
	if !slices.Equal(p, before) {
		t.Fatalf("%v became %v", before, p)
	}
}

// P14.1, P14.2: the example of the chapter, and some lists whose orders are written down.
func TestWritten(t *testing.T) {
	for _, c := range []struct {
		keys     []int64
		by, of   []int
		median   int64
		distinct []int64
	}{
		{[]int64{5, 2, 5}, []int{1, 0, 2}, []int{1, 0, 2}, 5, []int64{2, 5}},
		{[]int64{7}, []int{0}, []int{0}, 7, []int64{7}},
		{[]int64{0}, []int{0}, []int{0}, 0, []int64{0}},
		{[]int64{4, 4}, []int{0, 1}, []int{0, 1}, 4, []int64{4}},
		{[]int64{9, 3}, []int{1, 0}, []int{1, 0}, 3, []int64{3, 9}},
		{[]int64{30, 10, 20}, []int{1, 2, 0}, []int{2, 0, 1}, 20, []int64{10, 20, 30}},
		{[]int64{4, 1, 3, 2}, []int{1, 3, 2, 0}, []int{3, 0, 2, 1}, 2, []int64{1, 2, 3, 4}},
		{[]int64{1, 1, 1, 8}, []int{0, 1, 2, 3}, []int{0, 1, 2, 3}, 1, []int64{1, 8}},
		{[]int64{8, 8, 8, 1, 8}, []int{3, 0, 1, 2, 4}, []int{1, 2, 3, 0, 4}, 8, []int64{1, 8}},
		{[]int64{math.MaxInt64, math.MinInt64, 0}, []int{1, 2, 0}, []int{2, 0, 1}, 0, []int64{math.MinInt64, 0, math.MaxInt64}},
		{[]int64{-1, math.MaxInt64, math.MinInt64, 1}, []int{2, 0, 3, 1}, []int{1, 3, 0, 2}, -1, []int64{math.MinInt64, -1, 1, math.MaxInt64}},
	} {
		median, ok := Median(c.keys)
		if !slices.Equal(By(c.keys), c.by) || !slices.Equal(Of(c.keys), c.of) || median != c.median || !ok || !slices.Equal(Distinct(c.keys), c.distinct) {
			t.Errorf("%v: By %v, Of %v, Median %d, %v, Distinct %v", c.keys, By(c.keys), Of(c.keys), median, ok, Distinct(c.keys))
		}
		checkKeys(t, c.keys)
	}
}

// P14.1, P14.2: all short lists of few unlike keys, near and far ones.
func TestShortKeys(t *testing.T) {
	for n, high := range []int{0, 6, 6, 5, 5, 4, 3, 2} {
		eachList(n, 0, high, func(l []int) {
			checkKeys(t, asKeys(l, func(x int) int64 { return int64(x - high/2) }))
			checkKeys(t, asKeys(l, func(x int) int64 { return brinks[x*(len(brinks)-1)/max(high, 1)] }))
		})
	}
}

// P14.1, P14.2: each two of the brinks, either way round.
func TestBrinks(t *testing.T) {
	for _, a := range brinks {
		for _, b := range brinks {
			checkKeys(t, []int64{a, b})
			checkKeys(t, []int64{a, b, a})
		}
	}
	checkKeys(t, brinks)
}

// P14.1, P14.2: long lists, on which sorts go other ways than on short ones.
func TestLongKeys(t *testing.T) {
	for _, keys := range longKeys() {
		checkKeys(t, keys)
	}
}

// P14.1, P14.2: very long lists of one key, and of a rising and a falling row, whose orders are known.
func TestVeryLongKeys(t *testing.T) {
	const n = 1 << 18
	same, up, down := make([]int64, n), make([]int64, n), make([]int64, n)
	for i := range n {
		same[i], up[i], down[i] = 7, int64(i), int64(n-i)
	}
	bySame, byUp, byDown, ofDown := By(same), By(up), By(down), Of(down)
	for i := range n {
		if bySame[i] != i || byUp[i] != i || byDown[i] != n-1-i || ofDown[i] != n-1-i {
			t.Fatalf("place %d: %d, %d, %d, %d", i, bySame[i], byUp[i], byDown[i], ofDown[i])
		}
	}
	if m, ok := Median(down); m != n/2 || !ok {
		t.Errorf("Median is %d, %v", m, ok)
	}
	if !slices.Equal(Distinct(same), same[:1]) || !slices.Equal(Distinct(up), up) {
		t.Error("Distinct")
	}
}

// P14.2: of an even number of keys the lower one in the middle is told, of an odd number the one in the middle.
func TestMedianOfEachLength(t *testing.T) {
	for n := 1; n < 200; n++ {
		keys := make([]int64, n)
		for i := range keys {
			keys[i*7919%n] = int64(10 * i) // each one once, as 7919 is a prime above n
		}
		if m, ok := Median(keys); m != int64(10*((n-1)/2)) || !ok {
			t.Fatalf("%d keys: Median is %d, %v", n, m, ok)
		}
	}
}

// P14.1, P14.2: all short lists of numbers that are places, or just beyond.
func TestShortPlaces(t *testing.T) {
	for n := range 7 {
		eachList(n, -1, n, func(p []int) { checkPlaces(t, p) })
	}
}

// P14.1, P14.2: an order in which one place is another number, which is none or stands there already.
func TestNoOrders(t *testing.T) {
	for _, n := range []int{1, 2, 3, 8, 63, 64, 65, 300} {
		p := make([]int, n)
		for i := range p {
			p[i] = (i*7919 + n/3) % n // each one once, as 7919 is a prime above n
		}
		checkPlaces(t, p)
		for i := 0; i < n; i += n/9 + 1 {
			wrong := append(noPlaces(n), p[(i+1)%n], p[(i+n-1)%n], p[n-1-i])
			for _, x := range wrong {
				q := slices.Clone(p)
				q[i] = x
				checkPlaces(t, q)
			}
		}
	}
}

// P14.2: what stands in l may be anything; equal ones stay.
func TestApplyToAnything(t *testing.T) {
	l := []int{math.MinInt, math.MaxInt, -1, 0, -1}
	if got, ok := Apply([]int{4, 1, 3, 0, 2}, l); !ok || !slices.Equal(got, []int{-1, math.MaxInt, 0, math.MinInt, -1}) {
		t.Errorf("%v, %v", got, ok)
	}
	p := []int{2, 0, 1}
	if got, ok := Apply(p, p); !ok || !slices.Equal(got, []int{1, 2, 0}) || !slices.Equal(p, []int{2, 0, 1}) {
		t.Errorf("to itself: %v, %v, of %v", got, ok, p)
	}
}

// P14.2: a list of another length, shorter or longer, is not put in order.
func TestApplyOfAnotherLength(t *testing.T) {
	for n := range 6 {
		p := make([]int, n)
		for i := range p {
			p[i] = n - 1 - i
		}
		for other := range 9 {
			l := make([]int, other)
			got, ok := Apply(p, l)
			if ok != (n == other) || !ok && len(got) != 0 || ok && len(got) != n {
				t.Errorf("%d of %d: %v, %v", n, other, got, ok)
			}
		}
	}
	// Neither is what is no order, whatever the length.
	for _, p := range [][]int{{0, 0}, {1, 2}, {-1, 0}, {1}, {0, 1, 1}} {
		for other := range 5 {
			if got, ok := Apply(p, make([]int, other)); ok || len(got) != 0 {
				t.Errorf("%v of %d: %v", p, other, got)
			}
		}
	}
}

// P14.1, P14.2, P4: of none there is an order, which is empty; nil and empty lists are the same.
func TestNone(t *testing.T) {
	for _, keys := range [][]int64{nil, {}, make([]int64, 0, 4)} {
		m, ok := Median(keys)
		if len(By(keys)) != 0 || len(Of(keys)) != 0 || len(Distinct(keys)) != 0 || m != 0 || ok {
			t.Errorf("%#v", keys)
		}
	}
	for _, p := range [][]int{nil, {}, make([]int, 0, 4)} {
		if q, ok := Inverse(p); !ok || len(q) != 0 {
			t.Errorf("Inverse(%#v) is %v, %v", p, q, ok)
		}
		for _, l := range [][]int{nil, {}, make([]int, 0, 4)} {
			if q, ok := Apply(p, l); !ok || len(q) != 0 {
				t.Errorf("Apply(%#v, %#v) is %v, %v", p, l, q, ok)
			}
		}
		if q, ok := Apply(p, []int{7}); ok || len(q) != 0 {
			t.Errorf("Apply(%#v) to one is %v, %v", p, q, ok)
		}
	}
	if q, ok := Apply([]int{0}, nil); ok || len(q) != 0 {
		t.Errorf("Apply to none is %v, %v", q, ok)
	}
}

// P14.3: the inverse of an order's inverse is the order; Of is By's inverse, and keys are put in order by it.
func TestInverseOfInverse(t *testing.T) {
	for _, keys := range longKeys() {
		p, of := By(keys), Of(keys)
		inverse, ok := Inverse(p)
		again, okAgain := Inverse(inverse)
		if !ok || !okAgain || !slices.Equal(inverse, of) || !slices.Equal(again, p) {
			t.Fatalf("%v: %v, %v", p, inverse, again)
		}
		there, ok := Apply(p, of)
		for i, x := range there {
			if !ok || x != i {
				t.Fatalf("%v behind %v is %v", p, of, there)
			}
		}
	}
	for n := range 7 {
		eachList(n, 0, n-1, func(p []int) {
			inverse, ok := Inverse(p)
			if again, okAgain := Inverse(inverse); ok && (!okAgain || !slices.Equal(again, p)) {
				t.Fatalf("%v: %v, %v", p, inverse, again)
			}
		})
	}
}

// P4: what lies behind a list's length is neither read nor written.
func TestBehindTheLength(t *testing.T) {
	keys, p, l := []int64{5, 2, 5, -9, 2}, []int{2, 0, 1, 0, 7}, []int{7, 8, 9, 1, 2}
	q, ok := Apply(p[:3], l[:3])
	inverse, okInverse := Inverse(p[:3])
	m, okMedian := Median(keys[:3])
	if !ok || !slices.Equal(q, []int{9, 7, 8}) || !okInverse || !slices.Equal(inverse, []int{1, 2, 0}) || !okMedian || m != 5 {
		t.Errorf("Apply %v, Inverse %v, Median %d", q, inverse, m)
	}
	if !slices.Equal(By(keys[:3]), []int{1, 0, 2}) || !slices.Equal(Of(keys[:3]), []int{1, 0, 2}) || !slices.Equal(Distinct(keys[:3]), []int64{2, 5}) {
		t.Error("By, Of, Distinct")
	}
	if !slices.Equal(keys, []int64{5, 2, 5, -9, 2}) || !slices.Equal(p, []int{2, 0, 1, 0, 7}) || !slices.Equal(l, []int{7, 8, 9, 1, 2}) {
		t.Errorf("%v, %v, %v", keys, p, l)
	}
}

// P4: what is answered is new memory: neither what was handed in nor another answer changes with it, right up to its room.
func TestNewMemory(t *testing.T) {
	for _, n := range []int{1, 2, 5, 20} {
		keys, p, l := make([]int64, n, 2*n), make([]int, n, 2*n), make([]int, n, 2*n)
		for i := range n {
			keys[i], p[i], l[i] = int64(i), i, i // in order already, so that nothing need be moved
		}
		ints := func() [][]int {
			inverse, _ := Inverse(p)
			applied, _ := Apply(p, l)
			return [][]int{By(keys), Of(keys), inverse, applied}
		}
		first, distinct := ints(), Distinct(keys)
		for _, a := range first {
			lists.Spoil(a)
		}
		lists.Spoil(distinct)
		for which, a := range append(ints(), p, l) {
			for i, x := range a {
				if x != i {
					t.Fatalf("%d of %d: %v", which, n, a)
				}
			}
		}
		if !slices.Equal(Distinct(keys), keys) || keys[n-1] != int64(n-1) {
			t.Fatalf("%v of %v", Distinct(keys), keys)
		}
	}
}
