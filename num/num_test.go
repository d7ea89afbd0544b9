package num

import (
	"math"
	"math/big"
	"testing"

	"strait/scatter"
)

const (
	lowest  = math.MinInt64
	highest = math.MaxInt64
)

// brinks are numbers about which fitting turns: near 0, near the powers of two, near the ends, and near the root of the highest.
func brinks() []int64 {
	var l []int64
	for near := int64(-2); near <= 2; near++ {
		l = append(l, near, 3037000500+near, -3037000500+near)
	}
	for k := 2; k < 63; k++ {
		p := int64(1) << k
		l = append(l, p-1, p, p+1, -p-1, -p, -p+1)
	}
	for far := int64(0); far < 4; far++ {
		l = append(l, lowest+far, highest-far)
	}
	return append(l, highest/3, lowest/3, highest/7, lowest/7, 6074001000, -6074001000)
}

// scattered are n numbers of all sizes, always the same ones.
func scattered(n int) []int64 {
	l := make([]int64, n)
	for i, word := range scatter.Words(1, n) {
		l[i] = int64(word) >> (i % 64)
	}
	return l
}

// fitting is what a number of any length is as an answer.
func fitting(x *big.Int) (int64, bool) {
	if !x.IsInt64() {
		return 0, false
	}
	return x.Int64(), true
}

type operation struct {
	name string
	how  func(a, b int64) (int64, bool)
	big  func(z, a, b *big.Int) *big.Int
}

func operations() []operation {
	return []operation{
		{"Add", Add, (*big.Int).Add},
		{"Sub", Sub, (*big.Int).Sub},
		{"Mul", Mul, (*big.Int).Mul},
	}
}

func checkPair(t *testing.T, o operation, a, b int64) {
	t.Helper()
	want, wantOK := fitting(o.big(new(big.Int), big.NewInt(a), big.NewInt(b)))
	if got, ok := o.how(a, b); got != want || ok != wantOK {
		t.Errorf("%s(%d, %d) = %d %v, not %d %v", o.name, a, b, got, ok, want, wantOK)
	}
}

// P1.1: Add, Sub and Mul tell just what fits.
func TestPairsOfNumbers(t *testing.T) {
	for _, x := range []struct {
		name string
		how  func(a, b int64) (int64, bool)
		a, b int64
		want int64
		ok   bool
	}{
		{"Add", Add, 2, 3, 5, true},
		{"Add", Add, 1 << 62, 1 << 62, 0, false},
		{"Add", Add, 1 << 62, 1<<62 - 1, highest, true},
		{"Add", Add, highest, 1, 0, false},
		{"Add", Add, -1 << 62, -1 << 62, lowest, true},
		{"Add", Add, lowest, -1, 0, false},
		{"Add", Add, lowest, lowest, 0, false},
		{"Add", Add, lowest, highest, -1, true},
		{"Sub", Sub, 2, 3, -1, true},
		{"Sub", Sub, 0, lowest, 0, false},
		{"Sub", Sub, -1, lowest, highest, true},
		{"Sub", Sub, lowest, lowest, 0, true},
		{"Sub", Sub, lowest, 1, 0, false},
		{"Sub", Sub, highest, -1, 0, false},
		{"Sub", Sub, -2, highest, 0, false},
		{"Sub", Sub, -1, highest, lowest, true},
		{"Mul", Mul, -3, 4, -12, true},
		{"Mul", Mul, 0, lowest, 0, true},
		{"Mul", Mul, lowest, 0, 0, true},
		{"Mul", Mul, lowest, 1, lowest, true},
		{"Mul", Mul, lowest, -1, 0, false},
		{"Mul", Mul, -1, lowest, 0, false},
		{"Mul", Mul, lowest, lowest, 0, false},
		{"Mul", Mul, highest, -1, -highest, true},
		{"Mul", Mul, 1 << 31, 1 << 32, 0, false},
		{"Mul", Mul, -1 << 31, 1 << 32, lowest, true},
		{"Mul", Mul, -1 << 31, -1 << 32, 0, false},
		{"Mul", Mul, 1 << 32, 1 << 32, 0, false},
		{"Mul", Mul, 3037000499, 3037000499, 9223372030926249001, true},
		{"Mul", Mul, 3037000500, 3037000500, 0, false},
	} {
		if got, ok := x.how(x.a, x.b); got != x.want || ok != x.ok {
			t.Errorf("%s(%d, %d) = %d %v, not %d %v", x.name, x.a, x.b, got, ok, x.want, x.ok)
		}
	}
}

// P1.1: held against numbers that have no end, at the brinks and at numbers of all sizes.
func TestPairsAgainstLongNumbers(t *testing.T) {
	near, far := brinks(), scattered(4096)
	for _, o := range operations() {
		for _, a := range near {
			for _, b := range near {
				checkPair(t, o, a, b)
			}
		}
		for i, a := range far {
			checkPair(t, o, a, far[(i*7+3)%len(far)])
			checkPair(t, o, a, near[i%len(near)])
		}
	}
}

// P1.1: Sum fits only if each sum on its way does.
func TestSum(t *testing.T) {
	for _, x := range []struct {
		l    []int64
		want int64
		ok   bool
	}{
		{nil, 0, true},
		{[]int64{}, 0, true},
		{[]int64{-7}, -7, true},
		{[]int64{lowest}, lowest, true},
		{[]int64{1, 2, 3, -10}, -4, true},
		{[]int64{highest, -1, 1}, highest, true},
		{[]int64{lowest, highest, 1}, 0, true},
		{[]int64{1 << 62, 1 << 62, -1 << 62}, 0, false},
		{[]int64{1 << 62, -1 << 62, 1 << 62}, 1 << 62, true},
		{[]int64{highest, 1, -1}, 0, false},
		{[]int64{lowest, -1, 1, 5}, 0, false},
		{[]int64{highest, 1, lowest, lowest, highest}, 0, false},
		{[]int64{3, highest}, 0, false},
	} {
		if got, ok := Sum(x.l...); got != x.want || ok != x.ok {
			t.Errorf("Sum(%v) = %d %v, not %d %v", x.l, got, ok, x.want, x.ok)
		}
	}
	if got, ok := Sum(); got != 0 || !ok {
		t.Errorf("Sum() = %d %v, not 0 true", got, ok)
	}
}

// P1.1: Sum, held against numbers that have no end.
func TestSumAgainstLongNumbers(t *testing.T) {
	far := scattered(2048)
	for start := range far {
		l := far[start:min(start+start%9, len(far))]
		total, fits := new(big.Int), true
		for _, n := range l {
			fits = fits && total.Add(total, big.NewInt(n)).IsInt64()
		}
		want := int64(0)
		if fits {
			want = total.Int64()
		}
		if got, ok := Sum(l...); got != want || ok != fits {
			t.Errorf("Sum(%v) = %d %v, not %d %v", l, got, ok, want, fits)
		}
	}
}

// P4: Sum neither changes its list, nor reads or writes what lies behind its length.
func TestSumLeavesItsListAlone(t *testing.T) {
	l := []int64{4, 5, 6, highest, 9}
	if got, ok := Sum(l[:3]...); got != 15 || !ok {
		t.Errorf("Sum of the first three = %d %v, not 15 true", got, ok)
	}
	for i, n := range []int64{4, 5, 6, highest, 9} {
		if l[i] != n {
			t.Errorf("place %d is %d now, not %d", i, l[i], n)
		}
	}
}

type put struct {
	n  int64
	ok bool
}

func checkAcc(t *testing.T, puts []put, want int64, wantOK bool) {
	t.Helper()
	var a Acc
	for i, p := range puts {
		if ok := a.Put(p.n); ok != p.ok {
			t.Errorf("%v: Put at place %d = %v", puts, i, ok)
		}
	}
	for range 2 {
		if got, ok := a.Value(); got != want || ok != wantOK {
			t.Errorf("%v: Value() = %d %v, not %d %v", puts, got, ok, want, wantOK)
		}
	}
}

// P1.2: an Acc adds what fits; what does not spoils it for good.
func TestAcc(t *testing.T) {
	checkAcc(t, nil, 0, true)
	checkAcc(t, []put{{0, true}}, 0, true)
	checkAcc(t, []put{{5, true}, {-9, true}}, -4, true)
	checkAcc(t, []put{{highest, true}, {0, true}, {lowest, true}}, -1, true)
	checkAcc(t, []put{{lowest, true}, {1, true}, {-1, true}}, lowest, true)
	checkAcc(t, []put{{highest, true}, {1, false}}, 0, false)
	checkAcc(t, []put{{highest, true}, {1, false}, {-1, false}, {0, false}, {lowest, false}}, 0, false)
	checkAcc(t, []put{{lowest, true}, {-1, false}, {1, false}, {7, false}}, 0, false)
	checkAcc(t, []put{{1 << 62, true}, {1 << 62, false}, {-1 << 62, false}}, 0, false)
}

// P1.2: what was told already stays apart from what is put later.
func TestAccValueOnTheWay(t *testing.T) {
	var a, b Acc
	sums := []int64{3, 1, highest}
	for i, n := range []int64{3, -2, highest - 1} {
		if !a.Put(n) {
			t.Errorf("Put(%d) does not fit", n)
		}
		if got, ok := a.Value(); got != sums[i] || !ok {
			t.Errorf("Value() behind Put(%d) = %d %v, not %d true", n, got, ok, sums[i])
		}
	}
	if a.Put(1) {
		t.Error("Put(1) on the highest fits")
	}
	if got, ok := b.Value(); got != 0 || !ok {
		t.Errorf("another one's Value() = %d %v, not 0 true", got, ok)
	}
}

// P1.2: a nil Acc takes nothing and tells nothing.
func TestAccOfNil(t *testing.T) {
	var a *Acc
	for _, n := range []int64{0, 1, lowest, highest} {
		if a.Put(n) {
			t.Errorf("Put(%d) of nil is true", n)
		}
	}
	if got, ok := a.Value(); got != 0 || ok {
		t.Errorf("Value() of nil = %d %v, not 0 false", got, ok)
	}
}

// P1.3: what was added is taken away again, and the other way round.
func TestAddedIsTakenAwayAgain(t *testing.T) {
	near := brinks()
	added, taken := 0, 0
	for _, a := range near {
		for _, b := range near {
			added += checkBack(t, "Add, then Sub", Add, Sub, a, b)
			taken += checkBack(t, "Sub, then Add", Sub, Add, a, b)
		}
	}
	if half := len(near) * len(near) / 2; added < half || taken < half {
		t.Errorf("only %d sums and %d differences fit", added, taken)
	}
}

// checkBack tells 1 if there was a way forth, so that a way that is never gone does not pass.
func checkBack(t *testing.T, name string, forth, back func(a, b int64) (int64, bool), a, b int64) int {
	t.Helper()
	there, ok := forth(a, b)
	if !ok {
		return 0
	}
	if again, ok := back(there, b); again != a || !ok {
		t.Errorf("%s of %d and %d = %d %v, not %d true", name, a, b, again, ok, a)
	}
	return 1
}

// P1.3: what was multiplied is divided again.
func TestMultipliedIsDividedAgain(t *testing.T) {
	near := brinks()
	fitted := 0
	for _, a := range near {
		for _, b := range near {
			product, ok := Mul(a, b)
			if !ok || b == 0 {
				continue
			}
			fitted++
			if product/b != a || product%b != 0 {
				t.Errorf("Mul(%d, %d) = %d, divided by %d is %d", a, b, product, b, product/b)
			}
		}
	}
	if fitted < len(near) {
		t.Errorf("only %d products fit", fitted)
	}
}

// P1.3: numbers put, and put again with the other sign, come to nothing.
func TestPutIsTakenAwayAgain(t *testing.T) {
	var a Acc
	l := []int64{1, -5, 1 << 62, -1 << 61, 77, highest >> 3}
	for _, n := range l {
		if !a.Put(n) {
			t.Fatalf("Put(%d) does not fit", n)
		}
	}
	for i := range l {
		if n := -l[len(l)-1-i]; !a.Put(n) {
			t.Fatalf("Put(%d) does not fit", n)
		}
	}
	if got, ok := a.Value(); got != 0 || !ok {
		t.Errorf("Value() = %d %v, not 0 true", got, ok)
	}
}
