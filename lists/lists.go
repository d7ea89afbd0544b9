// Package lists writes lists of edges in short, makes all short lists and the longest one of edges, and spoils lists, for the tests of all layers.
package lists

import (
	"slices"

	"strait/api"
)

// Spoilt is what stands in lists that are spoilt: no vertex, no place and no weight.
const Spoilt = -8

// Edges are the edges that the numbers tell, three each: both ends, and what the edge weighs. What is left over of a last edge does not count.
func Edges(numbers ...int64) []api.Edge {
	var l []api.Edge
	for ; len(numbers) >= 3; numbers = numbers[3:] {
		l = append(l, api.Edge{U: int(numbers[0]), V: int(numbers[1]), W: numbers[2]})
	}
	return l
}

// Most are as many edges as there may be, of n vertices: no two of them of the same ones, the higher end first, and each heavier than the one ahead.
func Most() (n int, l []api.Edge) {
	n = 1449 // n (n - 1) / 2 is just above 2^20
	l = make([]api.Edge, 0, api.MaxM)
	for v := n - 1; v >= 0; v-- {
		for u := v - 1; u >= 0 && len(l) < api.MaxM; u-- {
			l = append(l, api.Edge{U: v, V: u, W: int64(len(l)) + 1})
		}
	}
	return n, l
}

// Each hands on all lists of up to n of these things, each in memory of its own.
func Each[T any](n int, things []T, see func(l []T)) {
	var from func(l []T)
	from = func(l []T) {
		see(l)
		if len(l) >= n {
			return
		}
		for _, x := range things {
			from(append(slices.Clone(l), x))
		}
	}
	from(nil)
}

// Spoil writes over the list up to its capacity, so that whatever shares memory with it is another one from then on.
func Spoil[T int | int64](l []T) {
	l = l[:cap(l)]
	for i := range l {
		l[i] = Spoilt
	}
}
