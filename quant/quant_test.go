package quant

import (
	"math"
	"math/big"
	"slices"
	"testing"

	"strait/api"
	"strait/scatter"
)

const (
	lowest  = math.MinInt64
	highest = math.MaxInt64
	minInt  = math.MinInt
	maxInt  = math.MaxInt
)

var (
	inf     = math.Inf(1)
	minInf  = math.Inf(-1)
	minZero = math.Copysign(0, -1)
	noNum   = math.NaN()
)

// noNumbers are some of those that are no numbers: short and full ones, of either sign.
func noNumbers() []float64 {
	var l []float64
	for _, b := range []uint64{0x7FF0000000000001, 0x7FF7FFFFFFFFFFFF, 0x7FF8000000000000, 0x7FF8000000000001, 0x7FFFFFFFFFFFFFFF} {
		l = append(l, math.Float64frombits(b), math.Float64frombits(b|1<<63))
	}
	return l
}

// finites are floats of all sizes that are numbers, with either sign: noughts, the ends of all kinds, short and full ones at some powers, and scattered ones.
func finites() []float64 {
	l := []float64{0, 5e-324, 1e-323, 1.5e-323, 1e-310, math.Nextafter(0x1p-1022, 0), 0x1p-1022, 1e-300, 0.1, 1e300, 0x1p1023, math.MaxFloat64}
	for _, k := range []int{-1074, -1030, -60, -53, -52, -3, -1, 0, 1, 2, 9, 10, 11, 12, 52, 53, 61, 62, 63, 64, 500, 900} {
		for _, m := range []float64{1, 3, 5, 1<<52 + 1, 1<<53 - 1} {
			l = append(l, math.Ldexp(m, k))
		}
	}
	for i, b := range scatter.Words(1, 600) {
		if x := math.Float64frombits(b); !math.IsNaN(x) && !math.IsInf(x, 0) {
			l = append(l, x)
		}
		l = append(l, math.Ldexp(float64(b>>11), i%140-100), math.Ldexp(float64(b>>57), i%80-10))
	}
	for _, x := range slices.Clone(l) {
		l = append(l, -x)
	}
	return l
}

// numbers are some of all sizes: near 0, near the powers of two and what lies between floats there, near the ends, and scattered ones.
func numbers() []int64 {
	l := []int64{lowest, lowest + 1, lowest + 512, lowest + 1024, highest, highest - 511, highest - 1023}
	for k := range 63 {
		p := int64(1) << k
		for _, off := range []int64{0, 1, 2, 3, max(1, p>>52), max(1, p>>53)} {
			l = append(l, p-off, p+off, -p-off, off-p)
		}
	}
	for i, b := range scatter.Words(1, 400) {
		n := int64(b) >> (i % 64)
		l = append(l, n, n&^1023)
	}
	return l
}

// times is x · 2^k, with room for all of it.
func times(x *big.Float, k int) *big.Float {
	return new(big.Float).SetMantExp(x, k)
}

// wantCount is what the chapter says of how many steps k x is, by numbers that have no end and with no look at its bits.
func wantCount(x float64, k int) (int64, api.Errno) {
	if math.IsNaN(x) {
		return 0, api.ErrNaN
	}
	if math.IsInf(x, 0) {
		return 0, api.ErrInf
	}
	long := times(big.NewFloat(x), -k)
	if !long.IsInt() {
		return 0, api.ErrFrac
	}
	n, _ := long.Int(nil)
	if !n.IsInt64() {
		return 0, api.ErrRange
	}
	return n.Int64(), api.OK
}

// goesInto tells whether x is a whole number of steps k, by numbers that have no end.
func goesInto(k int, x float64) bool {
	return times(big.NewFloat(x), -k).IsInt()
}

func checkStep(t *testing.T, l []float64, k int, e api.Errno, at int) {
	t.Helper()
	if gotK, gotE, gotAt := Step(l); gotK != k || gotE != e || gotAt != at {
		t.Errorf("Step(%v) = %d %d %d, not %d %d %d", l, gotK, gotE, gotAt, k, e, at)
	}
}

func checkScale(t *testing.T, l []float64, k int, want []int64, e api.Errno, at int) {
	t.Helper()
	if got, gotE, gotAt := Scale(l, k); !slices.Equal(got, want) || gotE != e || gotAt != at {
		t.Errorf("Scale(%v, %d) = %v %d %d, not %v %d %d", l, k, got, gotE, gotAt, want, e, at)
	}
	if got := Fits(l, k); got != (e == api.OK) {
		t.Errorf("Fits(%v, %d) = %v", l, k, got)
	}
}

// same tells whether both are the same floats, bit by bit.
func same(a, b []float64) bool {
	return slices.EqualFunc(a, b, func(x, y float64) bool {
		return math.Float64bits(x) == math.Float64bits(y)
	})
}

func checkBack(t *testing.T, l []int64, k int, want []float64, wantOK bool) {
	t.Helper()
	if got, ok := Back(l, k); !same(got, want) || ok != wantOK {
		t.Errorf("Back(%v, %d) = %v %v, not %v %v", l, k, got, ok, want, wantOK)
	}
}

// P5.1: Step of ordinary lists, of the chapter's example, of the ends of all kinds, of noughts, and of none.
func TestStep(t *testing.T) {
	for _, x := range []struct {
		l []float64
		k int
	}{
		{nil, 0},
		{[]float64{}, 0},
		{[]float64{0}, 0},
		{[]float64{minZero}, 0},
		{[]float64{0, minZero, 0}, 0},
		{[]float64{1.5, 0.25}, -2},
		{[]float64{0.25, 1.5}, -2},
		{[]float64{1.5, 0, -0.25, 4}, -2},
		{[]float64{1}, 0},
		{[]float64{-3}, 0},
		{[]float64{96}, 5},
		{[]float64{-96}, 5},
		{[]float64{96, 0}, 5},
		{[]float64{0, 96, minZero}, 5},
		{[]float64{96, 32, 160}, 5},
		{[]float64{96, 80, 64}, 4},
		{[]float64{64, 96, 3}, 0},
		{[]float64{1 << 40, 1 << 20}, 20},
		{[]float64{0.5, 0.5}, -1},
		{[]float64{0, -0.125}, -3},
		{[]float64{0.1}, -55},
		{[]float64{1<<53 - 1}, 0},
		{[]float64{1 << 53}, 53},
		{[]float64{5e-324}, -1074},
		{[]float64{-5e-324, 1}, -1074},
		{[]float64{1e-323}, -1073},
		{[]float64{0x1p-1022}, -1022},
		{[]float64{0x1p1023}, 1023},
		{[]float64{0, 0x1p1023}, 1023},
		{[]float64{math.MaxFloat64}, 971},
		{[]float64{math.MaxFloat64, 0x1p1023, -0x1p972}, 971},
		{[]float64{math.MaxFloat64, 5e-324}, -1074},
	} {
		checkStep(t, x.l, x.k, api.OK, 0)
	}
}

// P5.1: the first one that is no number, or infinite, and its place, whatever stands ahead of it and behind it.
func TestStepOfWhatHasNone(t *testing.T) {
	for _, x := range []struct {
		l  []float64
		e  api.Errno
		at int
	}{
		{[]float64{noNum}, api.ErrNaN, 0},
		{[]float64{inf}, api.ErrInf, 0},
		{[]float64{minInf}, api.ErrInf, 0},
		{[]float64{1, minInf, noNum}, api.ErrInf, 1},
		{[]float64{1, noNum, inf}, api.ErrNaN, 1},
		{[]float64{0, 96, inf}, api.ErrInf, 2},
		{[]float64{0.25, 0.5, 0, noNum}, api.ErrNaN, 3},
		{[]float64{5e-324, math.MaxFloat64, inf, inf}, api.ErrInf, 2},
	} {
		checkStep(t, x.l, 0, x.e, x.at)
	}
	for _, x := range noNumbers() {
		checkStep(t, []float64{0.5, x, inf}, 0, api.ErrNaN, 1)
	}
}

// P5.1: either error at each place of a list, and the other one behind it.
func TestStepAtEachPlace(t *testing.T) {
	l := make([]float64, 40)
	for i := range l {
		l[i] = float64(i) * 0.75
	}
	checkStep(t, l, -2, api.OK, 0)
	for at := range l {
		for _, x := range []struct {
			x, other float64
			e        api.Errno
		}{{noNum, inf, api.ErrNaN}, {inf, noNum, api.ErrInf}, {minInf, noNum, api.ErrInf}} {
			bad := slices.Clone(l)
			bad[at] = x.x
			checkStep(t, bad, 0, x.e, at)
			checkStep(t, append(bad, x.other), 0, x.e, at)
		}
	}
}

// P5.1: all floats are so many of the step, and one of them is not of the next one, by numbers that have no end.
func TestStepIsTheGreatest(t *testing.T) {
	all := finites()
	for from := 0; from+12 <= len(all); from += 3 {
		l := all[from : from+1+from%12]
		k, e, at := Step(l)
		if e != api.OK || at != 0 {
			t.Fatalf("Step(%v) = %d %d %d", l, k, e, at)
		}
		into, next, noughts := true, true, true
		for _, x := range l {
			into = into && goesInto(k, x)
			next = next && goesInto(k+1, x)
			noughts = noughts && x == 0
		}
		if !into || next != noughts || noughts && k != 0 {
			t.Errorf("Step(%v) = %d", l, k)
		}
	}
}

// P5.2: Scale and Fits of ordinary lists, at both ends of the numbers, and of those that are too fine or too great.
func TestScaleAndFits(t *testing.T) {
	for _, x := range []struct {
		l    []float64
		k    int
		want []int64
		e    api.Errno
		at   int
	}{
		{nil, 0, nil, api.OK, 0},
		{[]float64{}, 7, nil, api.OK, 0},
		{[]float64{1.5, 0.25}, -2, []int64{6, 1}, api.OK, 0},
		{[]float64{1.5, 0, -0.25, 4}, -3, []int64{12, 0, -2, 32}, api.OK, 0},
		{[]float64{0, minZero}, 3, []int64{0, 0}, api.OK, 0},
		{[]float64{96, -32}, 5, []int64{3, -1}, api.OK, 0},
		{[]float64{96, -32}, 0, []int64{96, -32}, api.OK, 0},
		{[]float64{96, -32}, 6, nil, api.ErrFrac, 0},
		{[]float64{64, -32}, 6, nil, api.ErrFrac, 1},
		{[]float64{0.5}, 0, nil, api.ErrFrac, 0},
		{[]float64{-0.5}, 0, nil, api.ErrFrac, 0},
		{[]float64{3}, 1, nil, api.ErrFrac, 0},
		{[]float64{0.1}, -55, []int64{3602879701896397}, api.OK, 0},
		{[]float64{0.1}, -54, nil, api.ErrFrac, 0},
		{[]float64{1 << 62, -1 << 62}, 0, []int64{1 << 62, -1 << 62}, api.OK, 0},
		{[]float64{1<<63 - 1<<10}, 0, []int64{1<<63 - 1<<10}, api.OK, 0},
		{[]float64{1 << 63}, 0, nil, api.ErrRange, 0},
		{[]float64{1 << 63}, 1, []int64{1 << 62}, api.OK, 0},
		{[]float64{-1 << 63}, 0, []int64{lowest}, api.OK, 0},
		{[]float64{-1<<63 + 1<<10}, 0, []int64{lowest + 1<<10}, api.OK, 0},
		{[]float64{-1<<63 - 1<<11}, 0, nil, api.ErrRange, 0},
		{[]float64{-1 << 64}, 0, nil, api.ErrRange, 0},
		{[]float64{-1 << 64}, 1, []int64{lowest}, api.OK, 0},
		{[]float64{1}, -62, []int64{1 << 62}, api.OK, 0},
		{[]float64{1}, -63, nil, api.ErrRange, 0},
		{[]float64{-1}, -63, []int64{lowest}, api.OK, 0},
		{[]float64{-1}, -64, nil, api.ErrRange, 0},
		{[]float64{1}, -64, nil, api.ErrRange, 0},
		{[]float64{1}, -65, nil, api.ErrRange, 0},
		{[]float64{3, -3}, -61, []int64{3 << 61, -3 << 61}, api.OK, 0},
		{[]float64{-3}, -62, nil, api.ErrRange, 0},
		{[]float64{-3}, -63, nil, api.ErrRange, 0},
		{[]float64{1<<53 - 1}, -10, []int64{1<<63 - 1<<10}, api.OK, 0},
		{[]float64{1<<53 - 1}, -11, nil, api.ErrRange, 0},
		{[]float64{1 - 1<<53}, -11, nil, api.ErrRange, 0},
		{[]float64{1<<53 - 1}, -63, nil, api.ErrRange, 0},
		{[]float64{5e-324, -1e-323}, -1074, []int64{1, -2}, api.OK, 0},
		{[]float64{5e-324}, -1073, nil, api.ErrFrac, 0},
		{[]float64{5e-324}, -1136, []int64{1 << 62}, api.OK, 0},
		{[]float64{5e-324}, -1137, nil, api.ErrRange, 0},
		{[]float64{-5e-324}, -1137, []int64{lowest}, api.OK, 0},
		{[]float64{-5e-324}, -1138, nil, api.ErrRange, 0},
		{[]float64{0x1p1023}, 1023, []int64{1}, api.OK, 0},
		{[]float64{0x1p1023}, 1024, nil, api.ErrFrac, 0},
		{[]float64{0x1p1023}, 961, []int64{1 << 62}, api.OK, 0},
		{[]float64{0x1p1023}, 960, nil, api.ErrRange, 0},
		{[]float64{-0x1p1023}, 960, []int64{lowest}, api.OK, 0},
		{[]float64{-math.MaxFloat64}, 971, []int64{1 - 1<<53}, api.OK, 0},
		{[]float64{noNum}, 0, nil, api.ErrNaN, 0},
		{[]float64{inf}, 0, nil, api.ErrInf, 0},
		{[]float64{minInf}, 0, nil, api.ErrInf, 0},
	} {
		checkScale(t, x.l, x.k, x.want, x.e, x.at)
	}
}

// P5.2: of a k that is far off nought is 0 steps, and all other floats are none, or more than there is room for; nothing is counted round.
func TestScaleByFarSteps(t *testing.T) {
	some := []float64{1, -1, 3, 0.1, 5e-324, -5e-324, 0x1p-1022, 1 << 62, -1 << 63, 0x1p1023, -math.MaxFloat64}
	for _, far := range []int{1200, 5000, 1 << 31, 1<<32 + 3, 1 << 40, 1 << 62, maxInt / 2, maxInt - 1074, maxInt - 1023, maxInt - 63, maxInt - 1, maxInt} {
		for _, k := range []int{far, -far, -far - 1} {
			want := api.ErrFrac
			if k < 0 {
				want = api.ErrRange
			}
			for _, x := range some {
				checkScale(t, []float64{x}, k, nil, want, 0)
				checkScale(t, []float64{0, minZero, x, noNum}, k, nil, want, 2)
			}
			checkScale(t, []float64{0, minZero, 0}, k, []int64{0, 0, 0}, api.OK, 0)
			checkScale(t, []float64{0, noNum, 1}, k, nil, api.ErrNaN, 1)
			checkScale(t, []float64{minInf, 1}, k, nil, api.ErrInf, 0)
		}
	}
	checkScale(t, nil, minInt, nil, api.OK, 0)
	checkScale(t, nil, maxInt, nil, api.OK, 0)
}

// P5.2: each kind of error at each place of a list, and each other one behind it.
func TestScaleAtEachPlace(t *testing.T) {
	l, want := make([]float64, 40), make([]int64, 40)
	for i := range l {
		want[i] = int64(i*i) - 700
		l[i] = float64(want[i]) * 0.25
	}
	checkScale(t, l, -2, want, api.OK, 0)
	errors := []struct {
		x float64
		e api.Errno
	}{{noNum, api.ErrNaN}, {inf, api.ErrInf}, {minInf, api.ErrInf}, {-0.125, api.ErrFrac}, {1 << 61, api.ErrRange}, {-1 << 62, api.ErrRange}}
	for at := range l {
		for _, x := range errors {
			bad := slices.Clone(l)
			bad[at] = x.x
			checkScale(t, bad, -2, nil, x.e, at)
			for _, y := range errors {
				checkScale(t, append(bad, y.x), -2, nil, x.e, at)
			}
		}
	}
	for _, x := range noNumbers() {
		checkScale(t, []float64{0.5, x, inf, 0.125}, -2, nil, api.ErrNaN, 1)
	}
}

// P5.2: Scale and Fits of all kinds of floats at all steps about which something turns, held against numbers that have no end.
func TestScaleAgainstLongNumbers(t *testing.T) {
	seen := map[api.Errno]int{}
	for _, x := range append(finites(), noNum, inf, minInf) {
		low, high := -1140, 1030
		if x != 0 && x-x == 0 {
			high = math.Ilogb(x) + 2
			low = high - 120
		}
		for k := low; k <= high; k += 1 + (high-low)/200 {
			n, e := wantCount(x, k)
			seen[e]++
			if e == api.OK {
				checkScale(t, []float64{x}, k, []int64{n}, api.OK, 0)
			} else {
				checkScale(t, []float64{x}, k, nil, e, 0)
			}
		}
	}
	for _, e := range []api.Errno{api.OK, api.ErrNaN, api.ErrInf, api.ErrFrac, api.ErrRange} {
		if seen[e] < 100 {
			t.Errorf("only %d times Scale should tell %d", seen[e], e)
		}
	}
}

// P5.3: Back of ordinary lists and of none, at both ends of floats and of numbers, and of those that have none.
func TestBack(t *testing.T) {
	for _, x := range []struct {
		l    []int64
		k    int
		want []float64
		ok   bool
	}{
		{nil, 0, nil, true},
		{[]int64{}, maxInt, nil, true},
		{[]int64{6, 1}, -2, []float64{1.5, 0.25}, true},
		{[]int64{6, -1, 0}, -2, []float64{1.5, -0.25, 0}, true},
		{[]int64{0}, 0, []float64{0}, true},
		{[]int64{3, -1}, 5, []float64{96, -32}, true},
		{[]int64{7}, 0, []float64{7}, true},
		{[]int64{1 << 53}, 0, []float64{1 << 53}, true},
		{[]int64{1<<53 + 1}, 0, nil, false},
		{[]int64{-1<<53 - 1}, 0, nil, false},
		{[]int64{1, 1<<53 + 1}, 0, nil, false},
		{[]int64{1<<53 + 2}, 0, []float64{1<<53 + 2}, true},
		{[]int64{highest}, 0, nil, false},
		{[]int64{highest - 1023}, 0, []float64{1<<63 - 1<<10}, true},
		{[]int64{lowest}, 0, []float64{-1 << 63}, true},
		{[]int64{lowest + 1}, 0, nil, false},
		{[]int64{1, -1}, -1074, []float64{5e-324, -5e-324}, true},
		{[]int64{1}, -1075, nil, false},
		{[]int64{2}, -1075, []float64{5e-324}, true},
		{[]int64{3}, -1075, nil, false},
		{[]int64{lowest}, -1137, []float64{-5e-324}, true},
		{[]int64{lowest}, -1138, nil, false},
		{[]int64{1}, 1023, []float64{0x1p1023}, true},
		{[]int64{1}, 1024, nil, false},
		{[]int64{2}, 1023, nil, false},
		{[]int64{-1 << 62}, 961, []float64{-0x1p1023}, true},
		{[]int64{1<<53 - 1}, 971, []float64{math.MaxFloat64}, true},
		{[]int64{1<<53 - 1}, 972, nil, false},
	} {
		checkBack(t, x.l, x.k, x.want, x.ok)
	}
}

// P5.3: of a k that is far off 0 steps are +0, and no other number is a float.
func TestBackByFarSteps(t *testing.T) {
	for _, k := range []int{minInt, minInt + 1, minInt + 63, minInt + 1074, minInt / 2, -1 << 40, -1<<32 - 3, -5000, -1200, 1200, 5000, 1<<32 + 3, 1 << 40, maxInt / 2, maxInt - 1074, maxInt - 63, maxInt} {
		checkBack(t, nil, k, nil, true)
		checkBack(t, []int64{0, 0}, k, []float64{0, 0}, true)
		for _, n := range []int64{1, -1, 3, 1 << 53, 1 << 62, highest, lowest} {
			checkBack(t, []int64{n}, k, nil, false)
			checkBack(t, []int64{0, n, 0}, k, nil, false)
		}
	}
}

// P5.3: one that has no float, at each place of a list.
func TestBackAtEachPlace(t *testing.T) {
	l, want := make([]int64, 40), make([]float64, 40)
	for i := range l {
		l[i] = int64(i*i) - 700
		want[i] = float64(l[i]) * 8
	}
	checkBack(t, l, 3, want, true)
	for at := range l {
		for _, n := range []int64{1<<53 + 1, -1<<53 - 1, highest, lowest + 1} {
			bad := slices.Clone(l)
			bad[at] = n
			checkBack(t, bad, 3, nil, false)
		}
	}
}

// P5.3: Back of numbers of all sizes by all steps about which something turns, held against numbers that have no end.
func TestBackAgainstLongNumbers(t *testing.T) {
	there, none := 0, 0
	for _, n := range numbers() {
		for k := -1140; k <= 1026; k++ {
			if k == -1010 {
				k = -3
			} else if k == 3 {
				k = 955
			}
			x, off := times(new(big.Float).SetInt64(n), k).Float64()
			if off != big.Exact || math.IsInf(x, 0) {
				checkBack(t, []int64{n}, k, nil, false)
				none++
				continue
			}
			checkBack(t, []int64{n}, k, []float64{x}, true)
			there++
		}
	}
	if there < 10000 || none < 10000 {
		t.Errorf("only %d numbers of steps have a float, and %d none", there, none)
	}
}

// unsigned are the floats of l, with +0 in the place of -0.
func unsigned(l []float64) []float64 {
	plain := slices.Clone(l)
	for i, x := range plain {
		if x == 0 {
			plain[i] = 0
		}
	}
	return plain
}

// P5.4: scaled by its step a list is whole: nothing but the room can be wrong, and not all numbers are even.
func TestScaledByItsStep(t *testing.T) {
	all, whole := finites(), 0
	for from := 0; from+12 <= len(all); from++ {
		l := all[from : from+1+from%12]
		k, _, _ := Step(l)
		counts, e, _ := Scale(l, k)
		if e != api.OK && e != api.ErrRange {
			t.Errorf("Scale(%v, %d) = %v %d", l, k, counts, e)
		}
		if e != api.OK {
			continue
		}
		whole++
		odd := slices.ContainsFunc(counts, func(n int64) bool { return n%2 != 0 })
		noughts := !slices.ContainsFunc(counts, func(n int64) bool { return n != 0 })
		if len(counts) != len(l) || odd == noughts {
			t.Errorf("Scale(%v, %d) = %v", l, k, counts)
		}
	}
	if whole < 300 {
		t.Errorf("only %d lists were scaled", whole)
	}
}

// P5.4: what is scaled leads back, bit by bit, but for the sign of -0.
func TestScaledLeadsBack(t *testing.T) {
	all, back := finites(), 0
	for from := 0; from+12 <= len(all); from++ {
		l := append(slices.Clone(all[from:from+1+from%3]), minZero, 0)
		step, _, _ := Step(l)
		for k := step - 64; k <= step+1; k++ {
			counts, e, _ := Scale(l, k)
			if e != api.OK {
				continue
			}
			back++
			checkBack(t, counts, k, unsigned(l), true)
		}
	}
	if back < 10000 {
		t.Errorf("only %d lists were scaled", back)
	}
}

// P5.4: the other way round, numbers of steps that have floats are told of them again.
func TestBackIsScaledAgain(t *testing.T) {
	again := 0
	for i, n := range numbers() {
		l, k := []int64{n, 0, -(n / 2)}, i%60-30
		floats, ok := Back(l, k)
		if !ok {
			continue
		}
		again++
		checkScale(t, floats, k, l, api.OK, 0)
	}
	if again < 500 {
		t.Errorf("only %d lists led back", again)
	}
}

// P4: what is handed in to Step, Scale and Fits stays as it was, bit by bit, nothing behind its length is looked at, and Scale's answer is new memory.
func TestFloatsAreLeftAlone(t *testing.T) {
	room := []float64{3, minZero, 0.5, noNum, inf, -1}
	ahead := slices.Clone(room)
	checkStep(t, room[:3], -1, api.OK, 0)
	checkStep(t, room[:4], 0, api.ErrNaN, 3)
	checkScale(t, room[:3], -1, []int64{6, 0, 1}, api.OK, 0)
	checkScale(t, room[:3], 0, nil, api.ErrFrac, 2)
	first, _, _ := Scale(room[:3], -1)
	for i := range first {
		first[i] = 99
	}
	_ = append(first, 98)
	checkScale(t, room[:3], -1, []int64{6, 0, 1}, api.OK, 0)
	if !same(room, ahead) {
		t.Errorf("the floats were %v and are %v", ahead, room)
	}
}

// P4: what is handed in to Back stays as it was, nothing behind its length is looked at, and its answer is new memory.
func TestNumbersAreLeftAlone(t *testing.T) {
	room := []int64{6, 0, -1, highest, 7}
	ahead := slices.Clone(room)
	checkBack(t, room[:3], -2, []float64{1.5, 0, -0.25}, true)
	checkBack(t, room[:4], -2, nil, false)
	first, _ := Back(room[:3], -2)
	for i := range first {
		first[i] = 99
	}
	_ = append(first, 98)
	checkBack(t, room[:3], -2, []float64{1.5, 0, -0.25}, true)
	if !slices.Equal(room, ahead) {
		t.Errorf("the numbers were %v and are %v", ahead, room)
	}
}
