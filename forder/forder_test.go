package forder

import (
	"math"
	"math/big"
	"slices"
	"testing"

	"strait/scatter"
)

var (
	inf     = math.Inf(1)
	minInf  = math.Inf(-1)
	minZero = math.Copysign(0, -1)
	noNum   = math.NaN()
)

// noNumbers are some of those that are no numbers: short and full ones, of either sign.
func noNumbers() []float64 {
	var l []float64
	for _, b := range []uint64{0x7FF0000000000001, 0x7FF7FFFFFFFFFFFF, 0x7FF8000000000000, 0x7FF8000000000001, 0x7FFFFFFFFFFFFFFF} {
		l = append(l, math.Float64frombits(b), math.Float64frombits(b|1<<63))
	}
	return l
}

// ladder are floats as the order has them, each unlike the one ahead of it.
func ladder() []float64 {
	return []float64{
		minInf, -math.MaxFloat64, math.Nextafter(-math.MaxFloat64, 0), -0x1p1023, -1e300, -0x1p53, -3, -2,
		math.Nextafter(-2, 0), -1.5, math.Nextafter(-1, -2), -1, math.Nextafter(-1, 0), -0.5, -1e-300, math.Nextafter(-0x1p-1022, -1),
		-0x1p-1022, math.Nextafter(-0x1p-1022, 0), -1e-310, -1e-323, -5e-324, minZero, 0, 5e-324, 1e-323, 1e-310,
		math.Nextafter(0x1p-1022, 0), 0x1p-1022, math.Nextafter(0x1p-1022, 1), 1e-300, 0.5, math.Nextafter(1, 0), 1,
		math.Nextafter(1, 2), 1.5, math.Nextafter(2, 0), 2, 3, 0x1p53, 1e300, 0x1p1023,
		math.Nextafter(math.MaxFloat64, 0), math.MaxFloat64, inf, noNum,
	}
}

// scattered are n floats of all kinds, always the same ones; many come more than once.
func scattered(n int) []float64 {
	l := make([]float64, n)
	known := append(ladder(), noNumbers()...)
	for i, word := range scatter.Words(1, n) {
		switch word >> 8 % 3 {
		case 0:
			l[i] = known[word>>16%uint64(len(known))]
		case 1:
			l[i] = float64(int64(word>>16%9) - 4)
		default:
			l[i] = math.Float64frombits(word)
		}
	}
	return l
}

// wantCmp holds two floats against each other by what the chapter says, with no look at their bits.
func wantCmp(a, b float64) int {
	switch aNaN, bNaN := math.IsNaN(a), math.IsNaN(b); {
	case aNaN && bNaN:
		return 0
	case aNaN:
		return 1
	case bNaN:
		return -1
	case a == 0 && b == 0 && math.Signbit(a) != math.Signbit(b):
		if math.Signbit(a) {
			return -1
		}
		return 1
	}
	return big.NewFloat(a).Cmp(big.NewFloat(b))
}

func alike(a, b float64) bool {
	return math.IsNaN(a) && math.IsNaN(b) || math.Float64bits(a) == math.Float64bits(b)
}

func checkPair(t *testing.T, a, b float64, want int) {
	t.Helper()
	if got := Cmp(a, b); got != want {
		t.Errorf("Cmp(%v, %v) = %d, not %d", a, b, got, want)
	}
	if got := Less(a, b); got != (want < 0) {
		t.Errorf("Less(%v, %v) = %v", a, b, got)
	}
}

// P3.1: Cmp and Less of all kinds of floats, each against each, by their places on a written ladder.
func TestCmpAndLessOnTheLadder(t *testing.T) {
	l := ladder()
	for i, a := range l {
		for j, b := range l {
			want := 0
			switch {
			case i < j:
				want = -1
			case i > j:
				want = 1
			}
			checkPair(t, a, b, want)
		}
	}
}

// P3.1: all that are no numbers are alike, whatever bits and sign they have, and come behind all else.
func TestCmpAndLessOfNoNumbers(t *testing.T) {
	for _, a := range noNumbers() {
		for _, b := range noNumbers() {
			checkPair(t, a, b, 0)
		}
		for _, b := range ladder() {
			if !math.IsNaN(b) {
				checkPair(t, a, b, 1)
				checkPair(t, b, a, -1)
			}
		}
	}
}

// P3.1: Cmp and Less of floats of all kinds, held against numbers that have no end.
func TestCmpAndLessAgainstLongNumbers(t *testing.T) {
	l := scattered(600)
	for _, a := range l {
		for _, b := range l {
			checkPair(t, a, b, wantCmp(a, b))
		}
	}
}

// P3.1: Sort of ordinary lists, of the chapter's example, of like ones, and of none.
func TestSort(t *testing.T) {
	for _, x := range []struct{ l, want []float64 }{
		{nil, nil},
		{[]float64{}, nil},
		{[]float64{7}, []float64{7}},
		{[]float64{noNum}, []float64{noNum}},
		{[]float64{3, 1, 2}, []float64{1, 2, 3}},
		{[]float64{-1, -3, -2}, []float64{-3, -2, -1}},
		{[]float64{2, 2, 1, 2}, []float64{1, 2, 2, 2}},
		{[]float64{0, minZero, 0, minZero}, []float64{minZero, minZero, 0, 0}},
		{[]float64{noNum, inf, 1, 0, minZero}, []float64{minZero, 0, 1, inf, noNum}},
		{[]float64{noNum, inf, 1, -1, noNum, minInf}, []float64{minInf, -1, 1, inf, noNum, noNum}},
		{[]float64{5e-324, -5e-324, minZero}, []float64{-5e-324, minZero, 5e-324}},
	} {
		if got := Sort(x.l); !slices.EqualFunc(got, x.want, alike) {
			t.Errorf("Sort(%v) = %v, not %v", x.l, got, x.want)
		}
	}
	for _, x := range noNumbers() {
		if got := Sort([]float64{x, 1, x}); len(got) != 3 || got[0] != 1 || !math.IsNaN(got[1]) || !math.IsNaN(got[2]) {
			t.Errorf("Sort of no numbers %X and 1 = %v", math.Float64bits(x), got)
		}
	}
}

// P3.1: Sort brings the ladder back from every turn of it, and from its reverse.
func TestSortOfTheLadder(t *testing.T) {
	want := ladder()
	for turn := range want {
		l := append(slices.Clone(want[turn:]), want[:turn]...)
		if got := Sort(l); !slices.EqualFunc(got, want, alike) {
			t.Errorf("Sort of the ladder turned by %d = %v", turn, got)
		}
		slices.Reverse(l)
		if got := Sort(l); !slices.EqualFunc(got, want, alike) {
			t.Errorf("Sort of the ladder turned by %d and reversed = %v", turn, got)
		}
	}
}

// P3.1: Sort of long lists, held against a sort by the chapter's words.
func TestSortOfLongLists(t *testing.T) {
	all := scattered(5000)
	for _, n := range []int{2, 11, 12, 13, 50, 300, 5000} {
		want := slices.Clone(all[:n])
		slices.SortFunc(want, wantCmp)
		if got := Sort(all[:n]); !slices.EqualFunc(got, want, alike) {
			t.Errorf("Sort of %d scattered floats is not in order", n)
		}
	}
}

// P3.1, P3.2: what is handed in stays as it was, bit by bit, also behind its length, and Sort's answer is new memory.
func TestListsAreLeftAlone(t *testing.T) {
	room := append(slices.Clone(noNumbers()), 3, minZero, 0, 3, -1, 8, -9)
	ahead := slices.Clone(room)
	l := room[:len(room)-2]
	sorted := Sort(l)
	Least(l)
	Most(l)
	Count(l)
	for i := range sorted {
		sorted[i] = 77
	}
	_ = append(sorted, 78)
	for i := range room {
		if math.Float64bits(room[i]) != math.Float64bits(ahead[i]) {
			t.Errorf("place %d was %v and is %v", i, ahead[i], room[i])
		}
	}
}

// P3.2: Least, Most and Count of ordinary lists, of the first of like ones, of kinds that are alike or not, and of none.
func TestLeastMostCount(t *testing.T) {
	for _, x := range []struct {
		l                  []float64
		least, most, count int
	}{
		{nil, -1, -1, 0},
		{[]float64{}, -1, -1, 0},
		{[]float64{5}, 0, 0, 1},
		{[]float64{noNum}, 0, 0, 1},
		{[]float64{minInf}, 0, 0, 1},
		{[]float64{inf}, 0, 0, 1},
		{[]float64{minZero}, 0, 0, 1},
		{[]float64{3, 1, 2}, 1, 0, 3},
		{[]float64{2, 3, 1}, 2, 1, 3},
		{[]float64{-3, -1, -2}, 0, 1, 3},
		{[]float64{4, 4, 4}, 0, 0, 1},
		{[]float64{2, 1, 3, 1, 3, 2}, 1, 2, 3},
		{[]float64{0, minZero, 0, minZero}, 1, 0, 2},
		{[]float64{minZero, 0, minZero, 0}, 0, 1, 2},
		{[]float64{inf, noNum, minInf, noNum}, 2, 1, 3},
		{[]float64{noNum, inf}, 1, 0, 2},
		{[]float64{noNum, noNum, -noNum}, 0, 0, 1},
		{[]float64{minInf, minInf, inf, inf}, 0, 2, 2},
		{[]float64{5e-324, -5e-324, 0, minZero}, 1, 0, 4},
		{[]float64{1, math.Nextafter(1, 2), 1}, 0, 1, 2},
	} {
		if got := Least(x.l); got != x.least {
			t.Errorf("Least(%v) = %d, not %d", x.l, got, x.least)
		}
		if got := Most(x.l); got != x.most {
			t.Errorf("Most(%v) = %d, not %d", x.l, got, x.most)
		}
		if got := Count(x.l); got != x.count {
			t.Errorf("Count(%v) = %d, not %d", x.l, got, x.count)
		}
	}
	if l := noNumbers(); Least(l) != 0 || Most(l) != 0 || Count(l) != 1 {
		t.Errorf("Least, Most and Count of no numbers = %d %d %d", Least(l), Most(l), Count(l))
	}
	if l := ladder(); Least(l) != 0 || Most(l) != len(l)-1 || Count(l) != len(l) {
		t.Errorf("Least, Most and Count of the ladder = %d %d %d", Least(l), Most(l), Count(l))
	}
}

// P3.2: Least, Most and Count of short lists cut out of scattered floats, held against the chapter's words, each one against each.
func TestLeastMostCountByEachAgainstEach(t *testing.T) {
	all := scattered(3000)
	for from := 0; from+40 <= len(all); from += 7 {
		l := all[from : from+1+from%40]
		least, most, count := -1, -1, 0
		for i := len(l) - 1; i >= 0; i-- {
			if !slices.ContainsFunc(l, func(x float64) bool { return wantCmp(x, l[i]) < 0 }) {
				least = i
			}
			if !slices.ContainsFunc(l, func(x float64) bool { return wantCmp(x, l[i]) > 0 }) {
				most = i
			}
			if !slices.ContainsFunc(l[:i], func(x float64) bool { return wantCmp(x, l[i]) == 0 }) {
				count++
			}
		}
		if Least(l) != least || Most(l) != most || Count(l) != count {
			t.Errorf("Least, Most and Count of %v = %d %d %d, not %d %d %d", l, Least(l), Most(l), Count(l), least, most, count)
		}
	}
}

// P3.3: just one of ahead, behind and the same holds of each two, and the two ways round tell one thing.
func TestJustOneHolds(t *testing.T) {
	l := append(append(ladder(), noNumbers()...), scattered(200)...)
	for _, a := range l {
		for _, b := range l {
			hold := 0
			for _, is := range []bool{Less(a, b), Less(b, a), Cmp(a, b) == 0} {
				if is {
					hold++
				}
			}
			if hold != 1 || Cmp(a, b) != -Cmp(b, a) {
				t.Errorf("of %v and %v, %d of the three hold; Cmp tells %d, and the other way round %d", a, b, hold, Cmp(a, b), Cmp(b, a))
			}
		}
	}
}

// P3.3: what is ahead of what is ahead of something is ahead of it; what is the same as something stands where it does.
func TestAheadOfAhead(t *testing.T) {
	l := append(append(ladder(), noNumbers()...), scattered(80)...)
	for _, a := range l {
		for _, b := range l {
			for _, c := range l {
				if Less(a, b) && Less(b, c) && !Less(a, c) {
					t.Errorf("%v is ahead of %v, that of %v, but the first not of the last", a, b, c)
				}
				if Cmp(a, b) == 0 && Cmp(a, c) != Cmp(b, c) {
					t.Errorf("%v and %v are the same, but stand otherwise to %v", a, b, c)
				}
			}
		}
	}
}
