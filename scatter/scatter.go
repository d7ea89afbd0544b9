// Package scatter makes numbers and edges that look like chance and are always the same ones, for the tests of all layers.
package scatter

import "strait/api"

// Words are n words of all kinds, as the seed says.
func Words(seed uint64, n int) []uint64 {
	l := make([]uint64, n)
	state := seed*0x9E3779B97F4A7C15 | 1 // from 0 it would never leave 0
	for i := range l {
		state ^= state << 13
		state ^= state >> 7
		state ^= state << 17
		l[i] = state
	}
	return l
}

// Below are n numbers from 0 to end - 1, as the seed says.
func Below(seed uint64, n, end int) []int {
	l := make([]int, n)
	for i, word := range Words(seed, n) {
		l[i] = int(word % uint64(end))
	}
	return l
}

// Edges are m edges that may be, of n vertices, as the seed says: heavy and light ones, with some from a vertex to itself and some of weight 0.
func Edges(seed uint64, n, m int) []api.Edge {
	l := make([]api.Edge, m)
	ends := Below(seed, 2*m, n)
	weights := Below(seed+1000, m, api.MaxW+1)
	for i := range l {
		l[i] = api.Edge{U: ends[2*i], V: ends[2*i+1], W: int64(weights[i]) >> (i % 33)}
	}
	return l
}
