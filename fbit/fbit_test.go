package fbit

import (
	"math"
	"math/big"
	"testing"

	"strait/scatter"
)

const (
	minInt = math.MinInt
	maxInt = math.MaxInt
)

// patterns are bits at all brinks: each sign, each e about which something turns, each f that is short or full, and some of all kinds.
func patterns() []uint64 {
	var l []uint64
	for _, e := range []uint64{0, 1, 2, 3, 51, 52, 53, 970, 1022, 1023, 1024, 1074, 1075, 1076, 1127, 1128, 2045, 2046, 2047} {
		for k := range 52 {
			p := uint64(1) << k
			for _, f := range []uint64{0, p, p - 1, p + 1, 1<<52 - p, (1<<52 - 1) ^ p} {
				b := e<<52 | f&(1<<52-1)
				l = append(l, b, b|1<<63)
			}
		}
	}
	return append(l, scatter.Words(1, 4096)...)
}

func noNumber(b uint64) bool {
	return b<<1 > 0x7FF<<53
}

// P2.1: Of tells the float with these bits, whatever they are.
func TestOf(t *testing.T) {
	for _, x := range []struct {
		b    uint64
		want float64
	}{
		{0, 0},
		{1, 5e-324},
		{1<<52 - 1, 2.225073858507201e-308},
		{1 << 52, 2.2250738585072014e-308},
		{0x3FF << 52, 1},
		{0x3FF8 << 48, 1.5},
		{0xC058 << 48, -96},
		{0x7FEFFFFFFFFFFFFF, math.MaxFloat64},
		{0x7FF << 52, math.Inf(1)},
		{0xFFF << 52, math.Inf(-1)},
	} {
		if got := Of(x.b); got != x.want || math.Signbit(got) != math.Signbit(x.want) {
			t.Errorf("Of(%X) = %v, not %v", x.b, got, x.want)
		}
	}
	if got := Of(1 << 63); got != 0 || !math.Signbit(got) {
		t.Errorf("Of the sign alone = %v, not -0", got)
	}
	for _, b := range patterns() {
		x := Of(b)
		if (x != x) != noNumber(b) || !noNumber(b) && math.Float64bits(x) != b {
			t.Errorf("Of(%X) = %v, whose bits are %X", b, x, math.Float64bits(x))
		}
	}
}

// P2.1: Bits tells a float's bits, and one word of all that are no numbers.
func TestBits(t *testing.T) {
	for _, b := range patterns() {
		want := b
		if noNumber(b) {
			want = 0x7FF8000000000000
		}
		if got := Bits(math.Float64frombits(b)); got != want {
			t.Errorf("Bits of %X = %X, not %X", b, got, want)
		}
	}
	for _, b := range []uint64{0x7FF0000000000001, 0xFFF0000000000001, 0x7FF7FFFFFFFFFFFF, 0xFFF8000000000000, 0x7FFFFFFFFFFFFFFF, 0xFFFFFFFFFFFFFFFF} {
		if got := Bits(math.Float64frombits(b)); got != 0x7FF8000000000000 {
			t.Errorf("Bits of no number %X = %X", b, got)
		}
	}
	if got := Bits(math.Copysign(0, -1)); got != 1<<63 {
		t.Errorf("Bits(-0) = %X", got)
	}
	if got := Bits(0); got != 0 {
		t.Errorf("Bits(+0) = %X", got)
	}
}

// P2.1: the kinds are five numbers in the chapter's order.
func TestKindsAreNumbered(t *testing.T) {
	for i, k := range []Class{NaN, Inf, Zero, Small, Normal} {
		if int(k) != i {
			t.Errorf("the kind at place %d is %d", i, int(k))
		}
	}
}

// P2.1: Kind and Neg at the brinks between the kinds, with either sign.
func TestKindAndNeg(t *testing.T) {
	for _, x := range []struct {
		b    uint64
		kind Class
	}{
		{0, Zero},
		{1, Small},
		{1 << 51, Small},
		{1<<52 - 1, Small},
		{1 << 52, Normal},
		{1<<52 + 1, Normal},
		{0x3FF << 52, Normal},
		{0x7FE << 52, Normal},
		{0x7FF<<52 - 1, Normal},
		{0x7FF << 52, Inf},
		{0x7FF<<52 + 1, NaN},
		{0x7FF8 << 48, NaN},
		{1<<63 - 1, NaN},
	} {
		plus, minus := math.Float64frombits(x.b), math.Float64frombits(x.b|1<<63)
		if got, other := Kind(plus), Kind(minus); got != x.kind || other != x.kind {
			t.Errorf("Kind of %X = %d, with a sign %d, not %d", x.b, got, other, x.kind)
		}
		if Neg(plus) {
			t.Errorf("Neg of %X is true", x.b)
		}
		if got := Neg(minus); got != (x.kind != NaN) {
			t.Errorf("Neg of %X with a sign = %v", x.b, got)
		}
	}
}

// P2.1: Kind and Neg, held against what package math says of the same float.
func TestKindAndNegAgainstMath(t *testing.T) {
	for _, b := range patterns() {
		x := math.Float64frombits(b)
		want := Normal
		switch {
		case math.IsNaN(x):
			want = NaN
		case math.IsInf(x, 0):
			want = Inf
		case x == 0:
			want = Zero
		case math.Abs(x) < 0x1p-1022:
			want = Small
		}
		if got := Kind(x); got != want {
			t.Errorf("Kind(%v) = %d, not %d", x, got, want)
		}
		if got := Neg(x); got != (math.Signbit(x) && want != NaN) {
			t.Errorf("Neg(%v) = %v", x, got)
		}
	}
}

// P2.2: Parts of ordinary floats, of those at the ends of their kinds, and of those that have none.
func TestParts(t *testing.T) {
	for _, x := range []struct {
		x  float64
		m  uint64
		e  int
		ok bool
	}{
		{1, 1, 0, true},
		{1.5, 3, -1, true},
		{96, 3, 5, true},
		{0.1, 3602879701896397, -55, true},
		{1<<53 - 1, 1<<53 - 1, 0, true},
		{1 << 53, 1, 53, true},
		{0, 0, 0, true},
		{5e-324, 1, -1074, true},
		{1e-323, 1, -1073, true},
		{1.5e-323, 3, -1074, true},
		{math.Float64frombits(1<<52 - 1), 1<<52 - 1, -1074, true},
		{math.Float64frombits(1 << 51), 1, -1023, true},
		{0x1p-1022, 1, -1022, true},
		{math.Float64frombits(1<<52 + 1), 1<<52 + 1, -1074, true},
		{math.Float64frombits(1<<53 - 1), 1<<53 - 1, -1074, true},
		{0x1p-1021, 1, -1021, true},
		{0x1p1023, 1, 1023, true},
		{math.MaxFloat64, 1<<53 - 1, 971, true},
		{math.Inf(1), 0, 0, false},
		{math.NaN(), 0, 0, false},
		{math.Float64frombits(0x7FF<<52 + 1), 0, 0, false},
	} {
		for _, y := range []float64{x.x, math.Copysign(x.x, -1)} {
			if m, e, ok := Parts(y); m != x.m || e != x.e || ok != x.ok {
				t.Errorf("Parts(%v) = %d %d %v, not %d %d %v", y, m, e, ok, x.m, x.e, x.ok)
			}
		}
	}
}

// P2.2: Parts come to the float again in numbers that have no end, and m is odd.
func TestPartsAgainstLongNumbers(t *testing.T) {
	for _, b := range patterns() {
		x := math.Abs(math.Float64frombits(b))
		m, e, ok := Parts(math.Float64frombits(b))
		if math.IsNaN(x) || math.IsInf(x, 0) {
			if m != 0 || e != 0 || ok {
				t.Errorf("Parts(%v) = %d %d %v", x, m, e, ok)
			}
			continue
		}
		if odd := m%2 == 1; !ok || odd == (x == 0) || x == 0 && e != 0 || long(m, e).Cmp(new(big.Float).SetFloat64(x)) != 0 {
			t.Errorf("Parts(%v) = %d %d %v", x, m, e, ok)
		}
	}
}

// long is m · 2^e, with room for all of it.
func long(m uint64, e int) *big.Float {
	return new(big.Float).SetMantExp(new(big.Float).SetUint64(m), e)
}

func checkMake(t *testing.T, m uint64, e int, want float64, wantOK bool) {
	t.Helper()
	for _, neg := range []bool{false, true} {
		wanted := want
		if neg && wantOK {
			wanted = math.Copysign(want, -1)
		}
		got, ok := Make(neg, m, e)
		if math.Float64bits(got) != math.Float64bits(wanted) || ok != wantOK {
			t.Errorf("Make(%v, %d, %d) = %v %v, not %v %v", neg, m, e, got, ok, wanted, wantOK)
		}
	}
}

// P2.2: Make of odd and even numbers, with each sign; +0 and false where there is no such float.
func TestMake(t *testing.T) {
	for _, x := range []struct {
		m    uint64
		e    int
		want float64
		ok   bool
	}{
		{1, 0, 1, true},
		{3, -1, 1.5, true},
		{12, -3, 1.5, true},
		{1 << 54, -2, 1 << 52, true},
		{1<<53 - 1, 0, 1<<53 - 1, true},
		{1 << 53, 0, 1 << 53, true},
		{1<<53 + 1, 0, 0, false},
		{1<<53 + 2, 0, 1<<53 + 2, true},
		{1<<53 + 1, -1074, 0, false},
		{1<<54 - 1, 0, 0, false},
		{math.MaxUint64, 0, 0, false},
		{math.MaxUint64, -70, 0, false},
		{1<<64 - 1<<11, 0, 0x1p64 - 0x1p11, true},
		{1<<64 - 1<<10, 0, 0, false},
		{1, -1074, 5e-324, true},
		{1, -1075, 0, false},
		{2, -1075, 5e-324, true},
		{3, -1075, 0, false},
		{1 << 63, -1137, 5e-324, true},
		{1 << 63, -1138, 0, false},
		{1 << 62, -1137, 0, false},
		{3 << 62, -1137, 0, false},
		{3 << 62, -1136, 1.5e-323, true},
		{1<<52 - 1, -1074, math.Float64frombits(1<<52 - 1), true},
		{1 << 52, -1074, 0x1p-1022, true},
		{1<<52 + 1, -1074, math.Float64frombits(1<<52 + 1), true},
		{1, -1023, math.Float64frombits(1 << 51), true},
		{1, -1022, 0x1p-1022, true},
		{1, 1023, 0x1p1023, true},
		{1, 1024, 0, false},
		{2, 1023, 0, false},
		{3, 1022, 0x1.8p1023, true},
		{3, 1023, 0, false},
		{1<<53 - 1, 971, math.MaxFloat64, true},
		{1<<53 - 1, 972, 0, false},
		{1 << 53, 971, 0, false},
		{1 << 52, 971, 0x1p1023, true},
		{1 << 63, 960, 0x1p1023, true},
		{1 << 63, 961, 0, false},
	} {
		checkMake(t, x.m, x.e, x.want, x.ok)
	}
}

// P2.2: of m 0 there is nought, whatever e is; of any other m an e that is far off has no float, and is not counted round.
func TestMakeOfAnyPower(t *testing.T) {
	far := []int{minInt, minInt + 1, minInt + 63, minInt + 1074, minInt / 2, -1 << 40, -1<<32 - 3, -1 << 31, -5000, -1200, 1025, 1100, 5000, 1 << 31, 1<<32 + 3, 1 << 40, maxInt / 2, maxInt - 1074, maxInt - 63, maxInt - 1, maxInt}
	for _, e := range append([]int{-1137, -1075, -1074, -1, 0, 1, 971, 1023, 1024}, far...) {
		checkMake(t, 0, e, 0, true)
	}
	for _, e := range far {
		for _, m := range []uint64{1, 2, 3, 1 << 52, 1<<53 - 1, 1 << 53, 1 << 62, 1 << 63, 3 << 62, math.MaxUint64} {
			checkMake(t, m, e, 0, false)
		}
	}
}

// P2.2: held against numbers that have no end, about each end of what floats reach and each length of m.
func TestMakeAgainstLongNumbers(t *testing.T) {
	var powers []int
	for e := -1140; e <= 1030; e++ {
		if e < -1000 || e > 900 || e > -70 && e < 10 {
			powers = append(powers, e)
		}
	}
	far := scatter.Words(1, 1024)
	made := 0
	for k := range 64 {
		p := uint64(1) << k
		for _, m := range []uint64{p, p | 1, p | p>>1, p | p>>52, p | p>>53, 2*p - 1, 2*p - max(1, p>>52), far[k] >> k, far[k*2] >> k << (k / 2)} {
			for _, e := range powers {
				made += checkAgainstLong(t, m, e)
			}
		}
	}
	for i, m := range far {
		made += checkAgainstLong(t, m>>(i%64), powers[i%len(powers)])
	}
	if made < 100000 {
		t.Errorf("only %d floats were made", made)
	}
}

// checkAgainstLong tells 1 if there is a float, so that none at all does not pass.
func checkAgainstLong(t *testing.T, m uint64, e int) int {
	t.Helper()
	want, off := long(m, e).Float64()
	if off != big.Exact || math.IsInf(want, 0) {
		checkMake(t, m, e, 0, false)
		return 0
	}
	checkMake(t, m, e, want, true)
	return 1
}

// P2.3: what is made of a float's parts, and its sign, is that float.
func TestPartsAreMadeAgain(t *testing.T) {
	again := 0
	for _, b := range patterns() {
		x := math.Float64frombits(b)
		m, e, ok := Parts(x)
		if !ok {
			continue
		}
		again++
		if y, made := Make(Neg(x), m, e); !made || math.Float64bits(y) != b {
			t.Errorf("of the parts of %v (%d, %d) Make tells %v %v", x, m, e, y, made)
		}
	}
	if all := len(patterns()); again < all*3/4 {
		t.Errorf("only %d of %d floats have parts", again, all)
	}
}

// P2.3: what Make takes an even m for has the parts of an odd one, worth the same.
func TestMadeIsTakenApartAgain(t *testing.T) {
	for k := range 11 {
		m, e := uint64(1<<53-1)<<k, 7-k
		x, ok := Make(true, m, e)
		if !ok || !Neg(x) {
			t.Fatalf("Make(true, %d, %d) = %v %v", m, e, x, ok)
		}
		if odd, power, ok := Parts(x); odd != 1<<53-1 || power != 7 || !ok {
			t.Errorf("Parts(%v) = %d %d %v", x, odd, power, ok)
		}
	}
}

// P2.3: bits and floats lead to each other, but for those of what is no number.
func TestBitsAreOfAgain(t *testing.T) {
	for _, b := range patterns() {
		if got := Bits(Of(b)); got != b && !(noNumber(b) && got == 0x7FF8000000000000) {
			t.Errorf("Bits(Of(%X)) = %X", b, got)
		}
	}
}
