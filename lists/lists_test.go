package lists

import (
	"math"
	"slices"
	"testing"

	"strait/api"
)

// Each three numbers are an edge, as they stand.
func TestEdges(t *testing.T) {
	want := []api.Edge{{U: 2, V: 0, W: 4}, {U: -1, V: -1, W: math.MinInt64}}
	if got := Edges(2, 0, 4, -1, -1, math.MinInt64); !slices.Equal(got, want) {
		t.Errorf("%v", got)
	}
	if got := Edges(2, 0, 4, -1, -1); !slices.Equal(got, want[:1]) {
		t.Errorf("with an edge that is no whole one: %v", got)
	}
	if len(Edges()) != 0 || len(Edges(1, 2)) != 0 {
		t.Error("none")
	}
}

// As many edges as there may be are told, all of other pairs of vertices.
func TestMost(t *testing.T) {
	n, l := Most()
	met := make([]bool, n*n)
	for i, e := range l {
		if e.V < 0 || e.V >= e.U || e.U >= n || e.W != int64(i)+1 || met[e.U*n+e.V] {
			t.Fatalf("edge %d is %v", i, e)
		}
		met[e.U*n+e.V] = true
	}
	if n > api.MaxN || len(l) != api.MaxM {
		t.Errorf("%d vertices, %d edges", n, len(l))
	}
}

// All lists come, each once, and none is changed by a later one.
func TestEach(t *testing.T) {
	var all [][]int
	Each(2, []int{7, 5}, func(l []int) { all = append(all, l) })
	want := [][]int{nil, {7}, {7, 7}, {7, 5}, {5}, {5, 7}, {5, 5}}
	if !slices.EqualFunc(all, want, slices.Equal[[]int]) {
		t.Errorf("%v", all)
	}
	for n, want := range []int{1, 4, 13, 40, 121} {
		count := 0
		Each(n, []string{"a", "b", "c"}, func([]string) { count++ })
		if count != want {
			t.Errorf("up to %d of three: %d lists", n, count)
		}
	}
	count := 0
	Each(-1, []int{1}, func([]int) { count++ })
	Each(9, nil, func([]int) { count++ })
	if count != 2 {
		t.Errorf("of none: %d lists", count)
	}
}

// All places of a list are spoilt, those behind its length too, and none ahead of it.
func TestSpoil(t *testing.T) {
	room := []int{1, 2, 3, 4, 5}
	Spoil(room[1:2:4])
	if !slices.Equal(room, []int{1, Spoilt, Spoilt, Spoilt, 5}) {
		t.Errorf("%v", room)
	}
	weights := make([]int64, 1, 2)
	Spoil(weights)
	if !slices.Equal(weights[:2], []int64{Spoilt, Spoilt}) {
		t.Errorf("%v", weights[:2])
	}
	Spoil[int](nil)
}
