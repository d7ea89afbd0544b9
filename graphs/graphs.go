// Package graphs makes graphs where there have to be some, for the tests of all layers.
package graphs

import (
	"strait/api"
	"strait/net"
)

// Test is a running test, as far as it matters here: what is no test may not name a *testing.T.
type Test interface {
	Helper()
	Fatalf(format string, args ...any)
}

// Of is the graph of n vertices and the edges l. If there can't be one, the test fails.
func Of(t Test, n int, l []api.Edge) *net.Net {
	t.Helper()
	g, why, at := net.New(n, l)
	if g == nil || why != api.OK || at != 0 {
		t.Fatalf("no graph of %d vertices and %d edges: %d, %d", n, len(l), why, at)
	}
	return g
}
