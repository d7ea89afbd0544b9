package fint

import (
	"math"
	"math/big"
	"slices"
	"testing"

	"strait/api"
	"strait/scatter"
)

const (
	lowest  = math.MinInt64
	highest = math.MaxInt64
)

var (
	inf     = math.Inf(1)
	minInf  = math.Inf(-1)
	minZero = math.Copysign(0, -1)
	noNum   = math.NaN()
)

// noNumbers are some of those that are no numbers: short and full ones, of either sign.
func noNumbers() []float64 {
	var l []float64
	for _, b := range []uint64{0x7FF0000000000001, 0x7FF7FFFFFFFFFFFF, 0x7FF8000000000000, 0x7FF8000000000001, 0x7FFFFFFFFFFFFFFF} {
		l = append(l, math.Float64frombits(b), math.Float64frombits(b|1<<63))
	}
	return l
}

// floats are some of all kinds with either sign: about each power of two up to 2^66 their neighbours and the halves between numbers, the ends of all kinds, and scattered ones.
func floats() []float64 {
	l := append(noNumbers(), inf, 0, 5e-324, 1e-323, 1e-310, math.Nextafter(0x1p-1022, 0), 0x1p-1022, 1e-300, 1e300, 0x1p1023, math.MaxFloat64)
	for k := -3; k <= 66; k++ {
		p := math.Ldexp(1, k)
		for _, off := range []float64{0, 0.25, 0.5, 1, 1.5, 2, 3, 1024, 2048} {
			l = append(l, p+off, p-off)
		}
		l = append(l, math.Nextafter(p, 0), math.Nextafter(p, inf))
	}
	for i, b := range scatter.Words(1, 4096) {
		l = append(l, math.Float64frombits(b), math.Ldexp(float64(b>>11), i%80-70))
	}
	for _, x := range slices.Clone(l) {
		l = append(l, math.Copysign(x, -1))
	}
	return l
}

// numbers are some of all sizes: near 0, near the powers of two and what lies between floats there, near the ends, and scattered ones.
func numbers() []int64 {
	l := []int64{lowest, lowest + 1, lowest + 511, lowest + 512, lowest + 1024, lowest + 2048, highest, highest - 510, highest - 511, highest - 512, highest - 1023, highest - 1024}
	for k := range 63 {
		p := int64(1) << k
		for _, off := range []int64{0, 1, 2, 3, 1 << (k / 2), max(1, p>>52), max(1, p>>53), max(1, p>>54)} {
			l = append(l, p-off, p+off, -p-off, off-p)
		}
	}
	for i, b := range scatter.Words(1, 4096) {
		n := int64(b) >> (i % 64)
		l = append(l, n, n&^1023)
	}
	return l
}

// wantInt is what the chapter says of x, by numbers that have no end and with no look at its bits.
func wantInt(x float64) (int64, api.Errno) {
	if math.IsNaN(x) {
		return 0, api.ErrNaN
	}
	if math.IsInf(x, 0) {
		return 0, api.ErrInf
	}
	long := big.NewFloat(x)
	if !long.IsInt() {
		return 0, api.ErrFrac
	}
	n, _ := long.Int(nil)
	if !n.IsInt64() {
		return 0, api.ErrRange
	}
	return n.Int64(), api.OK
}

func checkInt(t *testing.T, x float64, n int64, e api.Errno) {
	t.Helper()
	if gotN, gotE := Int(x); gotN != n || gotE != e {
		t.Errorf("Int(%v) = %d %d, not %d %d", x, gotN, gotE, n, e)
	}
	if got := Whole(x); got != (e == api.OK || e == api.ErrRange) {
		t.Errorf("Whole(%v) = %v", x, got)
	}
}

// P4.1: Int and Whole of ordinary floats and of those at all brinks, with the first error that holds, and 0 beside it.
func TestIntAndWhole(t *testing.T) {
	for _, x := range []struct {
		x float64
		n int64
		e api.Errno
	}{
		{0, 0, api.OK},
		{minZero, 0, api.OK},
		{1, 1, api.OK},
		{3, 3, api.OK},
		{-3, -3, api.OK},
		{96, 96, api.OK},
		{1e15, 1000000000000000, api.OK},
		{-1e18, -1000000000000000000, api.OK},
		{1<<53 - 1, 1<<53 - 1, api.OK},
		{1<<53 + 2, 1<<53 + 2, api.OK},
		{1 << 62, 1 << 62, api.OK},
		{-1 << 62, -1 << 62, api.OK},
		{1<<63 - 1<<10, 1<<63 - 1<<10, api.OK},
		{-1<<63 + 1<<10, -1<<63 + 1<<10, api.OK},
		{-1 << 63, lowest, api.OK},
		{1 << 63, 0, api.ErrRange},
		{1<<63 + 1<<11, 0, api.ErrRange},
		{-1<<63 - 1<<11, 0, api.ErrRange},
		{1 << 64, 0, api.ErrRange},
		{-1 << 64, 0, api.ErrRange},
		{1e300, 0, api.ErrRange},
		{-1e300, 0, api.ErrRange},
		{math.MaxFloat64, 0, api.ErrRange},
		{-math.MaxFloat64, 0, api.ErrRange},
		{0.5, 0, api.ErrFrac},
		{-0.5, 0, api.ErrFrac},
		{1.5, 0, api.ErrFrac},
		{-2.25, 0, api.ErrFrac},
		{0.1, 0, api.ErrFrac},
		{math.Nextafter(1, 0), 0, api.ErrFrac},
		{math.Nextafter(1, 2), 0, api.ErrFrac},
		{1<<52 - 0.5, 0, api.ErrFrac},
		{1<<52 + 1, 1<<52 + 1, api.OK},
		{1<<51 + 0.5, 0, api.ErrFrac},
		{5e-324, 0, api.ErrFrac},
		{-5e-324, 0, api.ErrFrac},
		{0x1p-1022, 0, api.ErrFrac},
		{1e-300, 0, api.ErrFrac},
		{inf, 0, api.ErrInf},
		{minInf, 0, api.ErrInf},
		{noNum, 0, api.ErrNaN},
	} {
		checkInt(t, x.x, x.n, x.e)
	}
	for _, x := range noNumbers() {
		checkInt(t, x, 0, api.ErrNaN)
	}
}

// P4.1: Int and Whole of all kinds of floats, held against numbers that have no end.
func TestIntAndWholeAgainstLongNumbers(t *testing.T) {
	seen := map[api.Errno]int{}
	for _, x := range floats() {
		n, e := wantInt(x)
		checkInt(t, x, n, e)
		seen[e]++
	}
	for _, e := range []api.Errno{api.OK, api.ErrNaN, api.ErrInf, api.ErrFrac, api.ErrRange} {
		if seen[e] == 0 {
			t.Errorf("no float was looked at of which Int tells %d", e)
		}
	}
}

func checkFloat(t *testing.T, n int64, want float64, wantOK bool) {
	t.Helper()
	if got, ok := Float(n); math.Float64bits(got) != math.Float64bits(want) || ok != wantOK {
		t.Errorf("Float(%d) = %v %v, not %v %v", n, got, ok, want, wantOK)
	}
}

// P4.1: Float of ordinary numbers, of those that lie between floats, and at both ends; +0 and false where there is none.
func TestFloat(t *testing.T) {
	for _, x := range []struct {
		n    int64
		want float64
		ok   bool
	}{
		{0, 0, true},
		{1, 1, true},
		{-1, -1, true},
		{7, 7, true},
		{-96, -96, true},
		{1<<53 - 1, 1<<53 - 1, true},
		{1 - 1<<53, 1 - 1<<53, true},
		{1 << 53, 1 << 53, true},
		{1<<53 + 1, 0, false},
		{-1<<53 - 1, 0, false},
		{1<<53 + 2, 1<<53 + 2, true},
		{1<<53 + 3, 0, false},
		{1<<54 + 2, 0, false},
		{1<<54 + 4, 1<<54 + 4, true},
		{1 << 62, 1 << 62, true},
		{1<<62 + 1<<9, 0, false},
		{1<<62 + 1<<10, 1<<62 + 1<<10, true},
		{highest, 0, false},
		{highest - 511, 0, false},
		{highest - 1023, 1<<63 - 1<<10, true},
		{lowest, -1 << 63, true},
		{lowest + 1, 0, false},
		{lowest + 512, 0, false},
		{lowest + 1024, -1<<63 + 1<<10, true},
	} {
		checkFloat(t, x.n, x.want, x.ok)
	}
}

// P4.1: Float of numbers of all sizes, held against numbers that have no end.
func TestFloatAgainstLongNumbers(t *testing.T) {
	there, none := 0, 0
	for _, n := range numbers() {
		x, off := new(big.Float).SetInt64(n).Float64()
		if off != big.Exact {
			checkFloat(t, n, 0, false)
			none++
			continue
		}
		checkFloat(t, n, x, true)
		there++
	}
	if there < 1000 || none < 500 {
		t.Errorf("only %d numbers have a float, and %d none", there, none)
	}
}

func checkWeight(t *testing.T, x float64, n int64, e api.Errno) {
	t.Helper()
	if gotN, gotE := Weight(x); gotN != n || gotE != e {
		t.Errorf("Weight(%v) = %d %d, not %d %d", x, gotN, gotE, n, e)
	}
}

// P4.2: Weight at both its ends, with Int's error first, and 0 beside an error.
func TestWeight(t *testing.T) {
	for _, x := range []struct {
		x float64
		n int64
		e api.Errno
	}{
		{0, 0, api.OK},
		{minZero, 0, api.OK},
		{1, 1, api.OK},
		{12345, 12345, api.OK},
		{1<<31 - 1, 1<<31 - 1, api.OK},
		{1 << 31, 1 << 31, api.OK},
		{1<<31 + 1, 0, api.ErrWeight},
		{1 << 32, 0, api.ErrWeight},
		{1 << 62, 0, api.ErrWeight},
		{1<<63 - 1<<10, 0, api.ErrWeight},
		{1 << 63, 0, api.ErrRange},
		{1e300, 0, api.ErrRange},
		{-1, 0, api.ErrWeight},
		{-7, 0, api.ErrWeight},
		{-1 << 31, 0, api.ErrWeight},
		{-1 << 63, 0, api.ErrWeight},
		{-1<<63 - 1<<11, 0, api.ErrRange},
		{-1e300, 0, api.ErrRange},
		{0.5, 0, api.ErrFrac},
		{-0.5, 0, api.ErrFrac},
		{-1.5, 0, api.ErrFrac},
		{5e-324, 0, api.ErrFrac},
		{-5e-324, 0, api.ErrFrac},
		{1<<31 - 0.5, 0, api.ErrFrac},
		{1<<31 + 0.5, 0, api.ErrFrac},
		{math.Nextafter(1<<31, inf), 0, api.ErrFrac},
		{inf, 0, api.ErrInf},
		{minInf, 0, api.ErrInf},
		{noNum, 0, api.ErrNaN},
	} {
		checkWeight(t, x.x, x.n, x.e)
	}
	for _, x := range noNumbers() {
		checkWeight(t, x, 0, api.ErrNaN)
	}
}

// P4.2: Weight of all kinds of floats, held against numbers that have no end.
func TestWeightAgainstLongNumbers(t *testing.T) {
	taken, refused := 0, 0
	for _, x := range floats() {
		n, e := wantInt(x)
		switch {
		case e == api.OK && (n < 0 || n > 2147483648):
			n, e = 0, api.ErrWeight
			refused++
		case e == api.OK:
			taken++
		}
		checkWeight(t, x, n, e)
	}
	if taken < 100 || refused < 100 {
		t.Errorf("only %d weights were taken, and %d numbers refused", taken, refused)
	}
}

func checkWeights(t *testing.T, l []float64, want []int64, e api.Errno, at int) {
	t.Helper()
	if got, gotE, gotAt := Weights(l); !slices.Equal(got, want) || gotE != e || gotAt != at {
		t.Errorf("Weights(%v) = %v %d %d, not %v %d %d", l, got, gotE, gotAt, want, e, at)
	}
}

// P4.2: Weights of ordinary lists and of none, and the first one that has an error, whatever comes behind it.
func TestWeights(t *testing.T) {
	for _, x := range []struct {
		l    []float64
		want []int64
		e    api.Errno
		at   int
	}{
		{nil, nil, api.OK, 0},
		{[]float64{}, nil, api.OK, 0},
		{[]float64{5}, []int64{5}, api.OK, 0},
		{[]float64{3, minZero, 1 << 31, 0, 3}, []int64{3, 0, 1 << 31, 0, 3}, api.OK, 0},
		{[]float64{-1}, nil, api.ErrWeight, 0},
		{[]float64{1, 2, -1, noNum}, nil, api.ErrWeight, 2},
		{[]float64{0.5, noNum, inf}, nil, api.ErrFrac, 0},
		{[]float64{1, 1e300, noNum}, nil, api.ErrRange, 1},
		{[]float64{1, 2, 3, noNum}, nil, api.ErrNaN, 3},
		{[]float64{1, minInf, 0.5}, nil, api.ErrInf, 1},
		{[]float64{1, 1<<31 + 1, -1}, nil, api.ErrWeight, 1},
	} {
		checkWeights(t, x.l, x.want, x.e, x.at)
	}
}

// P4.2: each kind of error at each place of a list, and a second one behind it.
func TestWeightsAtEachPlace(t *testing.T) {
	whole, want := make([]float64, 40), make([]int64, 40)
	for i := range whole {
		whole[i], want[i] = float64(i*i), int64(i*i)
	}
	checkWeights(t, whole, want, api.OK, 0)
	for at := range whole {
		for _, x := range []struct {
			x float64
			e api.Errno
		}{{noNum, api.ErrNaN}, {minInf, api.ErrInf}, {-0.5, api.ErrFrac}, {1 << 63, api.ErrRange}, {-1, api.ErrWeight}, {1 << 32, api.ErrWeight}} {
			l := slices.Clone(whole)
			l[at] = x.x
			checkWeights(t, l, nil, x.e, at)
			checkWeights(t, append(l, noNum, 0.5, -1), nil, x.e, at)
		}
	}
}

// P4: what is handed in to Weights stays as it was, bit by bit, also behind its length, and its answer is new memory.
func TestWeightsLeavesItsListAlone(t *testing.T) {
	room := []float64{3, minZero, 7, 0.5, noNum, -1}
	ahead := slices.Clone(room)
	checkWeights(t, room[:3], []int64{3, 0, 7}, api.OK, 0)
	checkWeights(t, room[:4], nil, api.ErrFrac, 3)
	first, _, _ := Weights(room[:3])
	for i := range first {
		first[i] = 99
	}
	_ = append(first, 98)
	checkWeights(t, room[:3], []int64{3, 0, 7}, api.OK, 0)
	for i := range room {
		if math.Float64bits(room[i]) != math.Float64bits(ahead[i]) {
			t.Errorf("place %d was %v and is %v", i, ahead[i], room[i])
		}
	}
}

// P4.3: a number that has a float is that float's.
func TestNumbersComeBack(t *testing.T) {
	back := 0
	for _, n := range numbers() {
		x, ok := Float(n)
		if !ok {
			continue
		}
		back++
		if again, e := Int(x); again != n || e != api.OK || !Whole(x) {
			t.Errorf("Float(%d) = %v, of which Int tells %d %d, and Whole %v", n, x, again, e, Whole(x))
		}
	}
	if back < 1000 {
		t.Errorf("only %d numbers have a float", back)
	}
}

// P4.3: a float that is whole is the float of its number, bit by bit; of -0 that is +0.
func TestFloatsComeBack(t *testing.T) {
	back := 0
	for _, x := range append(floats(), minZero) {
		n, e := Int(x)
		if e != api.OK {
			continue
		}
		back++
		want := math.Float64bits(x)
		if x == 0 {
			want = 0
		}
		if again, ok := Float(n); math.Float64bits(again) != want || !ok {
			t.Errorf("Int(%v) = %d, of which Float tells %v %v", x, n, again, ok)
		}
	}
	if back < 1000 {
		t.Errorf("only %d floats have a number", back)
	}
}
