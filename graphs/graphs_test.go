package graphs

import (
	"fmt"
	"slices"
	"testing"

	"strait/api"
	"strait/lists"
)

// noted is a test that notes how it fails, and goes on.
type noted struct {
	fails []string
}

func (n *noted) Helper() {}

func (n *noted) Fatalf(format string, args ...any) {
	n.fails = append(n.fails, fmt.Sprintf(format, args...))
}

// Where there is a graph, it has those vertices and edges, and no test fails.
func TestOf(t *testing.T) {
	n := &noted{}
	for _, g := range []Test{n, t} {
		got := Of(g, 4, lists.Edges(2, 1, 4, 1, 2, 3))
		if got.N() != 4 || !slices.Equal(got.Edges(), lists.Edges(1, 2, 7)) {
			t.Errorf("%d vertices, %v", got.N(), got.Edges())
		}
	}
	if got := Of(n, 0, nil); got == nil || got.N() != 0 {
		t.Error("no vertices")
	}
	if len(n.fails) != 0 {
		t.Errorf("%q", n.fails)
	}
}

// Where there can't be a graph, the test fails, and says why.
func TestOfNone(t *testing.T) {
	n := &noted{}
	if Of(n, 2, lists.Edges(0, 1, 1, 2, 1, 4)) != nil || Of(n, -1, nil) != nil || Of(n, api.MaxN+1, nil) != nil {
		t.Error("a graph")
	}
	want := []string{
		"no graph of 2 vertices and 2 edges: 4, 1",
		"no graph of -1 vertices and 0 edges: 1, 0",
		"no graph of 4097 vertices and 0 edges: 3, 0",
	}
	if !slices.Equal(n.fails, want) {
		t.Errorf("%q", n.fails)
	}
}
