package scatter

import (
	"math/bits"
	"slices"
	"testing"

	"strait/api"
)

// Each seed has its own numbers, and has them each time.
func TestWords(t *testing.T) {
	var known [][]uint64
	for seed := range uint64(50) {
		l := Words(2*seed, 9)
		if len(l) != 9 || !slices.Equal(l, Words(2*seed, 9)) || !slices.Equal(l[:4], Words(2*seed, 4)) {
			t.Errorf("%d: %v", 2*seed, l)
		}
		for _, other := range known {
			if slices.Equal(l, other) {
				t.Errorf("%d: as of another seed", 2*seed)
			}
		}
		known = append(known, l)
	}
}

// About half of all bits stand at each place, and no word comes twice.
func TestWordsAreScattered(t *testing.T) {
	l := Words(1, 4096)
	for place := range 64 {
		set := 0
		for _, word := range l {
			set += int(word >> place & 1)
		}
		if set < 1900 || set > 2200 {
			t.Errorf("bit %d: %d of %d", place, set, len(l))
		}
	}
	ones := 0
	for _, word := range l {
		ones += bits.OnesCount64(word)
	}
	if ones < 31*4096 || ones > 33*4096 {
		t.Errorf("%d ones", ones)
	}
	slices.Sort(l)
	if len(slices.Compact(l)) != 4096 {
		t.Error("a word comes twice")
	}
}

// All numbers below the end come, and no other ones.
func TestBelow(t *testing.T) {
	for end := 1; end < 40; end++ {
		l := Below(uint64(end), 40*end, end)
		slices.Sort(l)
		if got := slices.Compact(l); len(got) != end || got[0] != 0 || got[end-1] != end-1 {
			t.Errorf("%d: %v", end, got)
		}
	}
	if len(Below(3, 0, 5)) != 0 {
		t.Error("none")
	}
}

// All edges may be; some are from a vertex to itself, some weigh nothing and some much, and each seed has its own.
func TestEdges(t *testing.T) {
	l := Edges(2, 20, 500)
	if len(l) != 500 || !slices.Equal(l, Edges(2, 20, 500)) || slices.Equal(l, Edges(4, 20, 500)) {
		t.Errorf("%d edges", len(l))
	}
	loops, noughts, heavy := 0, 0, 0
	ends := map[int]int{}
	for _, e := range l {
		if e.U < 0 || e.U >= 20 || e.V < 0 || e.V >= 20 || e.W < 0 || e.W > api.MaxW {
			t.Errorf("%v", e)
		}
		if e.U == e.V {
			loops++
		}
		if e.W == 0 {
			noughts++
		}
		if e.W > api.MaxW/2 {
			heavy++
		}
		ends[e.U]++
		ends[e.V]++
	}
	if loops == 0 || noughts == 0 || heavy == 0 || len(ends) != 20 {
		t.Errorf("%d, %d, %d, %d", loops, noughts, heavy, len(ends))
	}
	if len(Edges(3, 5, 0)) != 0 {
		t.Error("none")
	}
}
