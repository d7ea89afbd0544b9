// Package scatter makes numbers that look like chance and are always the same ones, for the tests of all layers.
package scatter

// Words are n words of all kinds, as the seed says.
func Words(seed uint64, n int) []uint64 {
	l := make([]uint64, n)
	state := seed*0x9E3779B97F4A7C15 | 1 // from 0 it would never leave 0
	for i := range l {
		state ^= state << 13
		state ^= state >> 7
		state ^= state << 17
		l[i] = state
	}
	return l
}

// Below are n numbers from 0 to end - 1, as the seed says.
func Below(seed uint64, n, end int) []int {
	l := make([]int, n)
	for i, word := range Words(seed, n) {
		l[i] = int(word % uint64(end))
	}
	return l
}
