// Package num is layer 1: whole numbers of 64 bits, added, taken away and multiplied only where the outcome fits.
package num

import "math/bits"

// Add tells a and b together, or 0 and false where that does not fit.
func Add(a, b int64) (int64, bool) {
	sum := a + b
	// Only two numbers of one sign can leave the room, and then the sign turns.
	if (a^sum)&(b^sum) < 0 {
		return 0, false
	}
	return sum, true
}

// Sub tells a less b, or 0 and false where that does not fit.
func Sub(a, b int64) (int64, bool) {
	rest := a - b
	// Only two numbers of unlike signs can leave the room, and then a's sign turns.
	if (a^b)&(a^rest) < 0 {
		return 0, false
	}
	return rest, true
}

// Mul tells a times b, or 0 and false where that does not fit.
func Mul(a, b int64) (int64, bool) {
	high, low := bits.Mul64(size(a), size(b))
	if high != 0 {
		return 0, false
	}
	return signed(low, (a < 0) != (b < 0))
}

// size is how far n is from 0: a word, as -2^63 is farther than any int64 can tell.
func size(n int64) uint64 {
	if n < 0 {
		return -uint64(n)
	}
	return uint64(n)
}

// signed is the number that lies so far below or above 0, if it fits: there is room for one more below.
func signed(far uint64, below bool) (int64, bool) {
	const most = 1<<63 - 1
	switch {
	case far <= most && !below:
		return int64(far), true
	case far <= most+1 && below:
		return int64(-far), true
	}
	return 0, false
}

// Sum tells all of l together, or 0 and false where the numbers up to one of them do not fit.
func Sum(l ...int64) (int64, bool) {
	var a Acc
	if !putAll(a.Put, l) {
		return 0, false
	}
	return a.Value()
}

// putAll stops at the first number that put refuses: what comes behind it can't mend the sum.
func putAll(put func(int64) bool, l []int64) bool {
	for _, n := range l {
		if !put(n) {
			return false
		}
	}
	return true
}

// Acc gathers a sum, number by number. A plain one is empty.
type Acc struct {
	sum  int64
	over bool // a sum on the way did not fit; sum is 0 then
}

// Put adds n, and tells whether all the sums so far fit.
func (a *Acc) Put(n int64) bool {
	if a == nil || a.over {
		return false
	}
	sum, fits := Add(a.sum, n)
	a.sum, a.over = sum, !fits
	return fits
}

// Value tells the sum of what was put, or 0 and false where one on the way did not fit.
func (a *Acc) Value() (int64, bool) {
	if a == nil || a.over {
		return 0, false
	}
	return a.sum, true
}
