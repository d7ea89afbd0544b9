package gread

import (
	"math"
	"math/big"
	"regexp"
	"slices"
	"strconv"
	"strings"
	"testing"

	"strait/api"
	"strait/net"
	"strait/scatter"
)

// digits is what the document says of a number's digits.
const digits = `(0|-?[1-9][0-9]*)`

var (
	headForm = regexp.MustCompile(`\Agraph ` + digits + ` ` + digits + `\z`)
	edgeForm = regexp.MustCompile(`\A` + digits + ` ` + digits + ` ` + digits + `\z`)
)

// inRange tells whether the number of these digits is from 0 to most, by numbers that have no end.
func inRange(digits string, most int64) bool {
	n, _ := new(big.Int).SetString(digits, 10)
	return n.Sign() >= 0 && n.Cmp(big.NewInt(most)) <= 0
}

// number is that of these digits, which have to be of one that fits.
func number(digits string) int {
	n, err := strconv.Atoi(digits)
	if err != nil {
		panic(err)
	}
	return n
}

// wantHead is what the chapter says of a first line.
func wantHead(line string) (int, int, api.Errno) {
	parts := headForm.FindStringSubmatch(line)
	switch {
	case parts == nil:
		return 0, 0, api.ErrForm
	case !inRange(parts[1], 4096) || !inRange(parts[2], 1048576):
		return 0, 0, api.ErrLong
	}
	return number(parts[1]), number(parts[2]), api.OK
}

// wantEdge is what the chapter says of the line of an edge.
func wantEdge(line string, n int) (api.Edge, api.Errno) {
	parts := edgeForm.FindStringSubmatch(line)
	switch {
	case parts == nil:
		return api.Edge{}, api.ErrForm
	case n <= 0 || !inRange(parts[1], int64(n)-1) || !inRange(parts[2], int64(n)-1):
		return api.Edge{}, api.ErrVertex
	case !inRange(parts[3], 2147483648):
		return api.Edge{}, api.ErrWeight
	}
	return api.Edge{U: number(parts[1]), V: number(parts[2]), W: int64(number(parts[3]))}, api.OK
}

// told is what a text says: so many vertices and these edges, as they stand; or an error, and the line's number.
type told struct {
	n    int
	l    []api.Edge
	why  api.Errno
	line int
}

// wantRead is what the chapter says of a text that is not too long.
func wantRead(s string) told {
	lines := strings.SplitAfter(s, "\n")
	at := func(i int) (string, bool) {
		if i >= len(lines) {
			return "", false
		}
		return strings.CutSuffix(lines[i], "\n")
	}
	head, ok := at(0)
	if !ok {
		return told{why: api.ErrForm, line: 1}
	}
	n, m, why := wantHead(head)
	if why != api.OK {
		return told{why: why, line: 1}
	}
	var l []api.Edge
	for i := 1; i <= m; i++ {
		line, ok := at(i)
		if !ok {
			return told{why: api.ErrForm, line: i + 1}
		}
		e, why := wantEdge(line, n)
		if why != api.OK {
			return told{why: why, line: i + 1}
		}
		l = append(l, e)
	}
	if strings.Join(lines[m+1:], "") != "" {
		return told{why: api.ErrForm, line: m + 2}
	}
	return told{n: n, l: l}
}

// plainly adds by pairs what edges weigh, one by one, and tells the pairs in order.
func plainly(n int, l []api.Edge) []api.Edge {
	sums := make([]int64, n*n)
	for _, e := range l {
		if e.U != e.V {
			sums[min(e.U, e.V)*n+max(e.U, e.V)] += e.W
		}
	}
	var merged []api.Edge
	for i, w := range sums {
		if w != 0 {
			merged = append(merged, api.Edge{U: i / n, V: i % n, W: w})
		}
	}
	return merged
}

// textOf writes a graph's text, of the edges as they stand.
func textOf(n int, l []api.Edge) string {
	var b strings.Builder
	b.WriteString("graph " + strconv.Itoa(n) + " " + strconv.Itoa(len(l)) + "\n")
	for _, e := range l {
		b.WriteString(strconv.Itoa(e.U) + " " + strconv.Itoa(e.V) + " " + strconv.FormatInt(e.W, 10) + "\n")
	}
	return b.String()
}

// short is s, or its beginning where it is long.
func short(s string) string {
	if len(s) > 200 {
		return s[:200] + ".."
	}
	return s
}

func checkHead(t *testing.T, line string, n, m int, why api.Errno) {
	t.Helper()
	if gotN, gotM, gotWhy := Head(line); gotN != n || gotM != m || gotWhy != why {
		t.Fatalf("Head(%q) is %d %d %d, not %d %d %d", short(line), gotN, gotM, gotWhy, n, m, why)
	}
}

func checkEdge(t *testing.T, line string, n int, e api.Edge, why api.Errno) {
	t.Helper()
	if got, gotWhy := Edge(line, n); got != e || gotWhy != why {
		t.Fatalf("Edge(%q, %d) is %v %d, not %v %d", short(line), n, got, gotWhy, e, why)
	}
}

// checkNone holds what Read tells against an error and a line's number.
func checkNone(t *testing.T, s string, why api.Errno, line int) {
	t.Helper()
	if g, gotWhy, gotLine := Read(s); g != nil || gotWhy != why || gotLine != line {
		t.Fatalf("Read(%q) is %v, %d, %d, not nil, %d, %d", short(s), g, gotWhy, gotLine, why, line)
	}
}

// checkGraph holds what Read tells against so many vertices and these merged edges.
func checkGraph(t *testing.T, s string, n int, merged []api.Edge) *net.Net {
	t.Helper()
	g, why, line := Read(s)
	if g == nil || why != api.OK || line != 0 {
		t.Fatalf("Read(%q) is %v, %d, %d", short(s), g, why, line)
	}
	if g.N() != n || !slices.Equal(g.Edges(), merged) {
		t.Fatalf("Read(%q) has %d vertices and %d edges", short(s), g.N(), g.M())
	}
	return g
}

// checkRead holds what Read tells against the chapter's words.
func checkRead(t *testing.T, s string) told {
	t.Helper()
	want := wantRead(s)
	if want.why != api.OK {
		checkNone(t, s, want.why, want.line)
		return want
	}
	g := checkGraph(t, s, want.n, plainly(want.n, want.l))
	if h, _, _ := net.New(want.n, want.l); !net.Same(g, h) {
		t.Fatalf("Read(%q) is another graph than that of its edges", short(s))
	}
	return want
}

// eachText hands on all texts of up to n of these pieces.
func eachText(n int, pieces []string, see func(s string)) {
	var from func(s string, left int)
	from = func(s string, left int) {
		see(s)
		if left == 0 {
			return
		}
		for _, p := range pieces {
			from(s+p, left-1)
		}
	}
	from("", n)
}

// strange are words that are no digits of numbers, though most of them look like some.
var strange = []string{"", "-", "-0", "00", "01", "-01", "007", "+1", "1.0", "1.", ".5", "1e3", "0x1", "1_0", "x", "1x", "1\t", "\t1", "1\r", "--1", "1-", "1\x00", "\xff", "\u0661", "\uff11", "\u22121", "1\u00a0", "nan", "graph", "Inf"}

// beyond64 are digits of numbers that 64 bits have no room for; some of them would be small ones, if they were cut off.
var beyond64 = []string{"9223372036854775808", "18446744073709551615", "18446744073709551616", "18446744073709551617", "-9223372036854775809", "-18446744073709551615", "36893488147419103233", "99999999999999999999", "340282366920938463463374607431768211457", strings.Repeat("9", 5000), "-" + strings.Repeat("7", 5000), "1" + strings.Repeat("0", 64)}

// about are the digits of numbers up to two off n.
func about(n int64) []string {
	var l []string
	for off := int64(-2); off <= 2; off++ {
		l = append(l, new(big.Int).Add(big.NewInt(n), big.NewInt(off)).String())
	}
	return l
}

// P17.1: first lines that are written down.
func TestHead(t *testing.T) {
	for _, c := range []struct {
		line string
		n, m int
		why  api.Errno
	}{
		{"graph 2 1", 2, 1, api.OK},
		{"graph 0 0", 0, 0, api.OK},
		{"graph 0 7", 0, 7, api.OK},
		{"graph 10 200", 10, 200, api.OK},
		{"graph 4096 1048576", 4096, 1 << 20, api.OK},
		{"graph 4097 0", 0, 0, api.ErrLong},
		{"graph 0 1048577", 0, 0, api.ErrLong},
		{"graph -1 0", 0, 0, api.ErrLong},
		{"graph 0 -1", 0, 0, api.ErrLong},
		{"graph -1 -1", 0, 0, api.ErrLong},
		{"graph 4294967297 1", 0, 0, api.ErrLong},
		{"graph 1 4294967297", 0, 0, api.ErrLong},
		{"graph 18446744073709551617 1", 0, 0, api.ErrLong},
		{"graph 1 18446744073709551617", 0, 0, api.ErrLong},
		{"graph 99999999999999999999 -1", 0, 0, api.ErrLong},
		{"graph 4097 x", 0, 0, api.ErrForm},
		{"graph x 1048577", 0, 0, api.ErrForm},
		{"graph 99999999999999999999 01", 0, 0, api.ErrForm},
		{"graph 01 99999999999999999999", 0, 0, api.ErrForm},
		{"graph -0 1", 0, 0, api.ErrForm},
		{"graph 1 -0", 0, 0, api.ErrForm},
		{"", 0, 0, api.ErrForm},
		{"graph", 0, 0, api.ErrForm},
		{"graph ", 0, 0, api.ErrForm},
		{"graph  ", 0, 0, api.ErrForm},
		{"graph 1", 0, 0, api.ErrForm},
		{"graph 1 ", 0, 0, api.ErrForm},
		{"graph 1 1 ", 0, 0, api.ErrForm},
		{" graph 1 1", 0, 0, api.ErrForm},
		{"graph  1 1", 0, 0, api.ErrForm},
		{"graph 1  1", 0, 0, api.ErrForm},
		{"graph 1 1 1", 0, 0, api.ErrForm},
		{"graph graph 1 1", 0, 0, api.ErrForm},
		{"graph\t1 1", 0, 0, api.ErrForm},
		{"graph\n1 1", 0, 0, api.ErrForm},
		{"graph 1\n1", 0, 0, api.ErrForm},
		{"graph 1 1\n", 0, 0, api.ErrForm},
		{"\ngraph 1 1", 0, 0, api.ErrForm},
		{"graph 1 1\r", 0, 0, api.ErrForm},
		{"graph1 1", 0, 0, api.ErrForm},
		{"graph1 1 1", 0, 0, api.ErrForm},
		{"graphs 1 1", 0, 0, api.ErrForm},
		{"grap 1 1", 0, 0, api.ErrForm},
		{"Graph 1 1", 0, 0, api.ErrForm},
		{"GRAPH 1 1", 0, 0, api.ErrForm},
		{"\ufeffgraph 1 1", 0, 0, api.ErrForm},
		{"1 1", 0, 0, api.ErrForm},
		{"1 1 1", 0, 0, api.ErrForm},
		{"1 1 graph", 0, 0, api.ErrForm},
		{"1 graph 1", 0, 0, api.ErrForm},
	} {
		checkHead(t, c.line, c.n, c.m, c.why)
	}
}

// P17.1: Head of all pairs of words about the limits and the ends of numbers, of words beyond all room, and of strange ones.
func TestHeadOfPairs(t *testing.T) {
	words := slices.Concat(strange, beyond64, []string{"1", "-1"})
	for _, n := range []int64{0, 100, api.MaxN, api.MaxM, 1 << 32, math.MaxInt64 - 2, math.MinInt64 + 2, math.MaxInt64, math.MinInt64} {
		words = append(words, about(n)...)
	}
	counts := map[api.Errno]int{}
	for _, a := range words {
		for _, b := range words {
			line := "graph " + a + " " + b
			n, m, why := wantHead(line)
			checkHead(t, line, n, m, why)
			counts[why]++
		}
	}
	if len(counts) != 3 || counts[api.OK] < 80 || counts[api.ErrLong] < 500 || counts[api.ErrForm] < 500 {
		t.Errorf("too few of one kind: %v", counts)
	}
}

// P17.1: all numbers of vertices that may be, and many of edges.
func TestHeadOfEachCount(t *testing.T) {
	for n := range api.MaxN + 1 {
		m := n * 256
		checkHead(t, "graph "+strconv.Itoa(n)+" "+strconv.Itoa(m), n, m, api.OK)
		checkHead(t, "graph "+strconv.Itoa(n+api.MaxN+1)+" "+strconv.Itoa(m), 0, 0, api.ErrLong)
		checkHead(t, "graph "+strconv.Itoa(n)+" "+strconv.Itoa(m+api.MaxM+1), 0, 0, api.ErrLong)
		checkHead(t, "graph "+strconv.Itoa(-1-n)+" "+strconv.Itoa(m), 0, 0, api.ErrLong)
		checkHead(t, "graph "+strconv.Itoa(n)+" "+strconv.Itoa(-1-m), 0, 0, api.ErrLong)
	}
}

// P17.1: Head and Edge of all short texts of pieces that lines are made of, or that look so.
func TestShortLines(t *testing.T) {
	pieces := []string{"graph", " ", "0", "1", "-", "9", "\n", "x", "12345678901234567890"}
	heads, edges := map[api.Errno]int{}, map[api.Errno]int{}
	eachText(5, pieces, func(s string) {
		n, m, why := wantHead(s)
		checkHead(t, s, n, m, why)
		heads[why]++
		for _, n := range []int{1, 10} {
			e, why := wantEdge(s, n)
			checkEdge(t, s, n, e, why)
			edges[why]++
		}
	})
	if heads[api.OK] == 0 || heads[api.ErrLong] == 0 || heads[api.ErrForm] == 0 {
		t.Errorf("too few first lines of one kind: %v", heads)
	}
	if edges[api.OK] == 0 || edges[api.ErrVertex] == 0 || edges[api.ErrWeight] == 0 || edges[api.ErrForm] == 0 {
		t.Errorf("too few edges of one kind: %v", edges)
	}
}

// P17.1: lines of edges that are written down.
func TestEdge(t *testing.T) {
	for _, c := range []struct {
		line string
		n    int
		e    api.Edge
		why  api.Errno
	}{
		{"0 1 5", 2, api.Edge{U: 0, V: 1, W: 5}, api.OK},
		{"1 0 5", 2, api.Edge{U: 1, V: 0, W: 5}, api.OK},
		{"1 1 9", 2, api.Edge{U: 1, V: 1, W: 9}, api.OK},
		{"0 0 0", 1, api.Edge{}, api.OK},
		{"12 305 2147483648", 306, api.Edge{U: 12, V: 305, W: 1 << 31}, api.OK},
		{"4095 4095 2147483648", 4096, api.Edge{U: 4095, V: 4095, W: 1 << 31}, api.OK},
		{"4096 0 1", 4097, api.Edge{U: 4096, W: 1}, api.OK},
		{"9223372036854775806 0 1", math.MaxInt, api.Edge{U: math.MaxInt - 1, W: 1}, api.OK},
		{"0 9223372036854775806 1", math.MaxInt, api.Edge{V: math.MaxInt - 1, W: 1}, api.OK},
		{"0 9223372036854775807 1", math.MaxInt, api.Edge{}, api.ErrVertex},
		{"9223372036854775808 0 1", math.MaxInt, api.Edge{}, api.ErrVertex},
		{"2 0 5", 2, api.Edge{}, api.ErrVertex},
		{"0 2 5", 2, api.Edge{}, api.ErrVertex},
		{"-1 0 5", 2, api.Edge{}, api.ErrVertex},
		{"0 -1 5", 2, api.Edge{}, api.ErrVertex},
		{"0 0 0", 0, api.Edge{}, api.ErrVertex},
		{"0 0 0", -1, api.Edge{}, api.ErrVertex},
		{"-1 -1 0", -1, api.Edge{}, api.ErrVertex},
		{"-2 -2 0", -1, api.Edge{}, api.ErrVertex},
		{"0 0 0", math.MinInt, api.Edge{}, api.ErrVertex},
		{"9223372036854775807 0 0", math.MinInt, api.Edge{}, api.ErrVertex},
		{"-9223372036854775808 0 0", math.MinInt, api.Edge{}, api.ErrVertex},
		{"4294967296 0 5", 2, api.Edge{}, api.ErrVertex},
		{"0 18446744073709551617 5", 2, api.Edge{}, api.ErrVertex},
		{"0 2 -1", 2, api.Edge{}, api.ErrVertex},
		{"2 0 2147483649", 2, api.Edge{}, api.ErrVertex},
		{"0 -1 99999999999999999999", 2, api.Edge{}, api.ErrVertex},
		{"0 1 2147483649", 2, api.Edge{}, api.ErrWeight},
		{"0 1 -1", 2, api.Edge{}, api.ErrWeight},
		{"1 1 -1", 2, api.Edge{}, api.ErrWeight},
		{"0 1 4294967297", 2, api.Edge{}, api.ErrWeight},
		{"0 1 9223372036854775807", 2, api.Edge{}, api.ErrWeight},
		{"0 1 -9223372036854775808", 2, api.Edge{}, api.ErrWeight},
		{"0 1 18446744073709551617", 2, api.Edge{}, api.ErrWeight},
		{"0 1 99999999999999999999", 2, api.Edge{}, api.ErrWeight},
		{"0 1 x", 2, api.Edge{}, api.ErrForm},
		{"0 2 x", 2, api.Edge{}, api.ErrForm},
		{"2 x -1", 2, api.Edge{}, api.ErrForm},
		{"x 2 -1", 2, api.Edge{}, api.ErrForm},
		{"99999999999999999999 99999999999999999999 01", 2, api.Edge{}, api.ErrForm},
		{"-0 1 5", 2, api.Edge{}, api.ErrForm},
		{"", 2, api.Edge{}, api.ErrForm},
		{"0", 2, api.Edge{}, api.ErrForm},
		{"0 1", 2, api.Edge{}, api.ErrForm},
		{"0 1 ", 2, api.Edge{}, api.ErrForm},
		{"0 1 5 ", 2, api.Edge{}, api.ErrForm},
		{" 0 1 5", 2, api.Edge{}, api.ErrForm},
		{"0  1 5", 2, api.Edge{}, api.ErrForm},
		{"0 1 5 0", 2, api.Edge{}, api.ErrForm},
		{"graph 0 1", 2, api.Edge{}, api.ErrForm},
		{"0\t1\t5", 2, api.Edge{}, api.ErrForm},
		{"0 1 5\r", 2, api.Edge{}, api.ErrForm},
		{"0 1 5\n", 2, api.Edge{}, api.ErrForm},
		{"\n0 1 5", 2, api.Edge{}, api.ErrForm},
		{"0 1\n5", 2, api.Edge{}, api.ErrForm},
		{"2 2", 2, api.Edge{}, api.ErrForm},
		{"", math.MinInt, api.Edge{}, api.ErrForm},
	} {
		checkEdge(t, c.line, c.n, c.e, c.why)
	}
}

// P17.1: Edge of all three words about the limits and the ends of numbers, at all ends of how many vertices there are.
func TestEdgeOfThree(t *testing.T) {
	weights := slices.Concat([]string{"1", "01"}, about(0), about(api.MaxW), about(1<<32), about(math.MaxInt64), about(math.MinInt64))
	counts := map[api.Errno]int{}
	for _, n := range []int{math.MinInt, math.MinInt + 1, -1 << 32, -3, -1, 0, 1, 2, 3, 10, api.MaxN, api.MaxN + 1, 1 << 32, math.MaxInt - 1, math.MaxInt} {
		vertices := slices.Concat([]string{"x", "00"}, about(0), about(int64(n)), about(1<<32), about(math.MaxInt64))
		for _, u := range vertices {
			for _, v := range vertices {
				for _, w := range weights {
					line := u + " " + v + " " + w
					e, why := wantEdge(line, n)
					checkEdge(t, line, n, e, why)
					counts[why]++
				}
			}
		}
	}
	if len(counts) != 4 || counts[api.OK] < 100 || counts[api.ErrVertex] < 1000 || counts[api.ErrWeight] < 1000 || counts[api.ErrForm] < 1000 {
		t.Errorf("too few of one kind: %v", counts)
	}
}

// P17.1: one of the three words of an edge is strange, or beyond all room, and the others may be, or can't.
func TestEdgeOfStrangeWords(t *testing.T) {
	for _, wrong := range slices.Concat(strange, beyond64) {
		for place := range 3 {
			for _, other := range []string{"0", "1", "-1", "2147483649", "99999999999999999999", "00"} {
				words := []string{other, other, other}
				words[place] = wrong
				line := strings.Join(words, " ")
				e, why := wantEdge(line, 2)
				checkEdge(t, line, 2, e, why)
			}
		}
	}
}

// P17.2: the chapter's example.
func TestExample(t *testing.T) {
	g := checkGraph(t, "graph 2 1\n0 1 5\n", 2, []api.Edge{{U: 0, V: 1, W: 5}})
	if g.Weight(0, 1) != 5 || g.M() != 1 || g.Total() != 5 {
		t.Errorf("%d edges of %d", g.M(), g.Total())
	}
}

// P17.2: texts that are written down, and the lines at which they can't be.
func TestRead(t *testing.T) {
	for _, c := range []struct {
		s    string
		why  api.Errno
		line int
	}{
		{"graph 0 0\n", api.OK, 0},
		{"graph 1 0\n", api.OK, 0},
		{"graph 4096 0\n", api.OK, 0},
		{"graph 1 1\n0 0 0\n", api.OK, 0},
		{"graph 3 2\n0 1 5\n2 1 2147483648\n", api.OK, 0},
		// Lines that are missing, or have no end.
		{"", api.ErrForm, 1},
		{"\n", api.ErrForm, 1},
		{"graph", api.ErrForm, 1},
		{"graph 0 0", api.ErrForm, 1},
		{"graph 4097 0", api.ErrForm, 1},
		{"graph 2 1", api.ErrForm, 1},
		{"graph 2 1\n", api.ErrForm, 2},
		{"graph 2 1048576\n", api.ErrForm, 2},
		{"graph 0 1\n", api.ErrForm, 2},
		{"graph 2 1\n0 1 5", api.ErrForm, 2},
		{"graph 2 1\n0 2 5", api.ErrForm, 2},
		{"graph 2 1\n0 1 -5", api.ErrForm, 2},
		{"graph 2 2\n0 1 5\n", api.ErrForm, 3},
		{"graph 2 2\n0 1 5\n0 1 5", api.ErrForm, 3},
		{"graph 2 2\n0 1 5\n0 7 -1", api.ErrForm, 3},
		{"graph 2 3\n0 1 5\n0 1 5\n", api.ErrForm, 4},
		// First lines that can't be.
		{"graf 0 0\n", api.ErrForm, 1},
		{"\ngraph 0 0\n", api.ErrForm, 1},
		{"graph 0\n", api.ErrForm, 1},
		{"graph 00 0\n", api.ErrForm, 1},
		{"graph 0 0\r\n", api.ErrForm, 1},
		{"graph 4097 0\n", api.ErrLong, 1},
		{"graph 1 1048577\n", api.ErrLong, 1},
		{"graph -1 0\n", api.ErrLong, 1},
		{"graph 1 -1\n", api.ErrLong, 1},
		{"graph 4097 1\n0 9 -1", api.ErrLong, 1},
		{"graph x 1\n0 9 -1", api.ErrForm, 1},
		// Edges that can't be.
		{"graph 2 1\n\n", api.ErrForm, 2},
		{"graph 2 1\n0 1\n", api.ErrForm, 2},
		{"graph 2 1\n0 1 5 \n", api.ErrForm, 2},
		{"graph 2 1\n0 1 5\r\n", api.ErrForm, 2},
		{"graph 0 1\n0 0 0\n", api.ErrVertex, 2},
		{"graph 2 1\n0 2 5\n", api.ErrVertex, 2},
		{"graph 2 1\n-1 0 5\n", api.ErrVertex, 2},
		{"graph 2 1\n0 2 -1\n", api.ErrVertex, 2},
		{"graph 2 1\n0 1 -1\n", api.ErrWeight, 2},
		{"graph 2 1\n1 1 2147483649\n", api.ErrWeight, 2},
		{"graph 2 2\n0 1 5\n0 1 -1\n", api.ErrWeight, 3},
		{"graph 2 2\n0 1 -1\n0 9 5\n", api.ErrWeight, 2},
		{"graph 2 2\n0 1 -1\nx", api.ErrWeight, 2},
		{"graph 2 2\n0 9 5\n", api.ErrVertex, 2},
		{"graph 2 1\n0 9 5\nx", api.ErrVertex, 2},
		// What stands behind the edges.
		{"graph 0 0\n\n", api.ErrForm, 2},
		{"graph 0 0\n\n\n", api.ErrForm, 2},
		{"graph 0 0\nx", api.ErrForm, 2},
		{"graph 0 0\n\x00", api.ErrForm, 2},
		{"graph 0 0\ngraph 0 0\n", api.ErrForm, 2},
		{"graph 2 0\n0 1 5\n", api.ErrForm, 2},
		{"graph 2 0\n0 9 -1\n", api.ErrForm, 2},
		{"graph 2 1\n0 1 5\n\n", api.ErrForm, 3},
		{"graph 2 1\n0 1 5\n ", api.ErrForm, 3},
		{"graph 2 1\n0 1 5\n0 1 5", api.ErrForm, 3},
		{"graph 2 1\n0 1 5\n0 1 5\n", api.ErrForm, 3},
		{"graph 2 1\n0 1 5\n0 9 -1\nx\n", api.ErrForm, 3},
	} {
		if want := checkRead(t, c.s); want.why != c.why || want.line != c.line {
			t.Errorf("%q: %d, %d, not %d, %d", c.s, want.why, want.line, c.why, c.line)
		}
	}
}

// P17.2, P17.3, P2: all short texts of lines, and of parts of some, of which some can't be.
func TestShortTexts(t *testing.T) {
	counts := map[api.Errno]int{}
	see := func(s string) { counts[checkRead(t, s).why]++ }
	eachText(4, []string{"graph 3 0\n", "graph 3 2\n", "graph 0 1\n", "graph 2 3\n", "graph 4097 1\n", "0 1 5\n", "2 0 7\n", "1 1 -1\n", "0 0 9", "\n", "x\n", " "}, see)
	for _, head := range []string{"graph 2 2\n", "graph 3 3\n", "graph 3 4\n"} {
		eachText(4, []string{"0 1 5\n", "1 0 2147483648\n", "1 1 3\n", "2 0 0\n", "0 2 1\n", "0 1 -4\n", "0 1\n", "0 1 6"}, func(s string) { see(head + s) })
	}
	if len(counts) != 5 || counts[api.OK] < 500 || counts[api.ErrForm] < 500 || counts[api.ErrLong] < 500 || counts[api.ErrVertex] < 100 || counts[api.ErrWeight] < 500 {
		t.Errorf("too few of one kind: %v", counts)
	}
}

// P17.2, P17.3: texts of few and of many edges.
func TestManyEdges(t *testing.T) {
	for _, c := range []struct{ n, m int }{{1, 0}, {1, 9}, {2, 50}, {5, 3}, {7, 200}, {30, 40}, {65, 4000}, {200, 150}, {150, 20000}, {1000, 3000}} {
		for seed := range uint64(3) {
			l := scatter.Edges(seed, c.n, c.m)
			if want := checkRead(t, textOf(c.n, l)); want.n != c.n || !slices.Equal(want.l, l) {
				t.Fatalf("%v: another text", c)
			}
		}
	}
}

// P17.2: a text that ends anywhere lacks the line in which it ends.
func TestTextsThatEnd(t *testing.T) {
	s := textOf(40, scatter.Edges(6, 40, 120))
	for i := range s {
		checkNone(t, s[:i], api.ErrForm, 1+strings.Count(s[:i], "\n"))
	}
}

// P17.2: whatever byte stands behind the lines, or in the place of another one, or beside one.
func TestTextsWithAWrongByte(t *testing.T) {
	l := scatter.Edges(7, 12, 9)
	s := textOf(12, l)
	for b := range 256 {
		behind := string([]byte{byte(b)})
		checkNone(t, s+behind, api.ErrForm, len(l)+2)
		checkNone(t, s+behind+"\n", api.ErrForm, len(l)+2)
		checkNone(t, s+behind+s, api.ErrForm, len(l)+2)
		checkRead(t, behind+s)
	}
	counts := map[api.Errno]int{}
	for i := range s {
		for _, b := range []string{"\n", " ", "0", "1", "3", "9", "-", "x", "\t", "\x00", "\xff"} {
			counts[checkRead(t, s[:i]+b+s[i+1:]).why]++
			counts[checkRead(t, s[:i]+b+s[i:]).why]++
		}
		counts[checkRead(t, s[:i]+s[i+1:]).why]++
	}
	if len(counts) != 5 || counts[api.OK] < 100 || counts[api.ErrForm] < 500 || counts[api.ErrVertex] < 100 || counts[api.ErrWeight] < 10 {
		t.Errorf("too few of one kind: %v", counts)
	}
}

// P17.2, P2: a line that can't be at each place of a long text, with others behind it that can't be either.
func TestErrorsAtEachLine(t *testing.T) {
	const n, m = 50, 400
	lines := strings.SplitAfter(strings.TrimSuffix(textOf(n, scatter.Edges(8, n, m)), "\n"), "\n")
	lines[m] += "\n"
	wrong := []struct {
		line string
		why  api.Errno
	}{{"0 1 -1\n", api.ErrWeight}, {"0 50 -1\n", api.ErrVertex}, {"0 1 x\n", api.ErrForm}, {"0 99999999999999999999 1\n", api.ErrVertex}, {"0 1 99999999999999999999\n", api.ErrWeight}, {"\n", api.ErrForm}}
	for i := m; i > 0; i-- {
		// What is behind this line can't be either: it was made so one turn ahead.
		for k := range wrong {
			w := wrong[(i+k)%len(wrong)]
			lines[i] = w.line
			checkNone(t, strings.Join(lines, ""), w.why, i+1)
		}
	}
	lines[0] = "graph 50 1048577\n"
	checkNone(t, strings.Join(lines, ""), api.ErrLong, 1)
	lines[0] = "graph 50 0400\n"
	checkNone(t, strings.Join(lines, ""), api.ErrForm, 1)
}

// P17.2: as many edges as there may be, and one more, and one less than are said.
func TestMostEdges(t *testing.T) {
	const n = 1449 // n (n - 1) / 2 is just above 2^20
	l := make([]api.Edge, 0, api.MaxM+1)
	for v := range n {
		for u := 0; u < v && len(l) < api.MaxM; u++ {
			l = append(l, api.Edge{U: v, V: u, W: int64(1 + (u+v)%1000)})
		}
	}
	if want := checkRead(t, textOf(n, l)); want.why != api.OK || len(want.l) != api.MaxM {
		t.Errorf("%d, %d of %d", want.why, want.line, len(want.l))
	}
	checkNone(t, textOf(n, append(l, api.Edge{})), api.ErrLong, 1)
	checkNone(t, strings.Replace(textOf(n, l[1:]), "1048575\n", "1048576\n", 1), api.ErrForm, api.MaxM+1)
	checkNone(t, textOf(n, l)+"0", api.ErrForm, api.MaxM+2)
	l[api.MaxM-1].W = -1
	checkNone(t, textOf(n, l), api.ErrWeight, api.MaxM+1)
}

// P17.2, P17.3: as many vertices as there may be, the last ones in edges, and one vertex more.
func TestMostVertices(t *testing.T) {
	last := api.Edge{U: 4095, V: 4094, W: 3}
	if g := checkGraph(t, textOf(4096, []api.Edge{last, last}), 4096, []api.Edge{{U: 4094, V: 4095, W: 6}}); g.Degree(4095) != 6 {
		t.Errorf("%d", g.Degree(4095))
	}
	checkNone(t, textOf(4096, []api.Edge{last, {U: 4096}}), api.ErrVertex, 3)
	checkNone(t, textOf(4097, []api.Edge{last, last}), api.ErrLong, 1)
	for n := range 4097 {
		checkGraph(t, "graph "+strconv.Itoa(n)+" 0\n", n, nil)
	}
}

// P17.2: a text of as many bytes as there may be is read; of one byte more nothing else is looked at.
func TestMostBytes(t *testing.T) {
	const line = "4095 4094 10000\n"
	most := "graph 4096 1048574\n" + strings.Repeat(line, 1048571) + "4094 4095 1000000000\n4094 4095 1000000000\n4095 4094 10000000\n"
	if len(most) != api.MaxText {
		t.Fatalf("%d bytes", len(most))
	}
	checkGraph(t, most, 4096, []api.Edge{{U: 4094, V: 4095, W: 1048571*10000 + 2010000000}})
	checkNone(t, most[:len(most)-2]+"00\n", api.ErrLong, 0)
	checkNone(t, most+"\n", api.ErrLong, 0)
	checkNone(t, "x"+most, api.ErrLong, 0)
}

// P17.2: long texts that are no graph's, of as many bytes as there may be and of more.
func TestLongTexts(t *testing.T) {
	long := strings.Repeat("\n", api.MaxText+1)
	checkNone(t, long, api.ErrLong, 0)
	checkNone(t, long+long, api.ErrLong, 0)
	checkNone(t, long[1:], api.ErrForm, 1)
	checkNone(t, "graph 0 0\n"+long[10:], api.ErrLong, 0)
	checkNone(t, "graph 0 0\n"+long[11:], api.ErrForm, 2)
	checkNone(t, "graph 1 1\n0 0 0\n"+long[17:], api.ErrForm, 3)
	one := strings.Repeat("1", api.MaxText)
	checkNone(t, one, api.ErrForm, 1)
	checkNone(t, one+"\n", api.ErrLong, 0)
	checkNone(t, "graph 1 "+one[9:]+"\n", api.ErrLong, 1)
	checkNone(t, "graph 1 1\n0 "+one[15:]+" x\n", api.ErrForm, 2)
	checkNone(t, "graph 1 1\n0 "+one[15:]+" 0\n", api.ErrVertex, 2)
	checkNone(t, "graph 1 1\n0 0 "+one[15:]+"\n", api.ErrWeight, 2)
	checkNone(t, strings.Repeat("1 ", api.MaxText/2), api.ErrForm, 1)
	checkNone(t, "graph 1 1\n"+strings.Repeat("0 ", api.MaxText/2-6)+"\n", api.ErrForm, 2)
}

// P17.3: parallel edges are added, either way round, up to the most that all may weigh; edges from a vertex to itself, and those of 0, don't count.
func TestEdgesAreAdded(t *testing.T) {
	checkGraph(t, "graph 3 5\n2 0 4\n1 1 9\n0 2 1\n0 1 0\n1 2 7\n", 3, []api.Edge{{U: 0, V: 2, W: 5}, {U: 1, V: 2, W: 7}})
	checkGraph(t, "graph 2 2\n0 1 2147483648\n1 0 2147483648\n", 2, []api.Edge{{U: 0, V: 1, W: 1 << 32}})
	checkGraph(t, "graph 2 3\n1 1 2147483648\n0 0 5\n1 1 1\n", 2, nil)
	// 15 bytes a line, so that 2^20 of them are no longer than a text may be.
	const m = api.MaxM
	checkGraph(t, "graph 2 1048576\n"+strings.Repeat("1 0 2147483648\n", m), 2, []api.Edge{{U: 0, V: 1, W: m << 31}})
}

// P17.3: in whatever order the lines of the edges stand, and either way round, the graph is the same.
func TestOrderOfLines(t *testing.T) {
	l := scatter.Edges(9, 30, 300)
	g, _, _ := Read(textOf(30, l))
	for i := range l {
		l[i].U, l[i].V = l[i].V, l[i].U
		j := scatter.Below(uint64(i), 1, len(l))[0]
		l[i], l[j] = l[j], l[i]
		if h, why, line := Read(textOf(30, l)); why != api.OK || line != 0 || !net.Same(g, h) {
			t.Fatalf("turned at %d: %d, %d", i, why, line)
		}
	}
	l[0].W++
	l[0].U, l[0].V = 0, 1
	if h, _, _ := Read(textOf(30, l)); net.Same(g, h) {
		t.Error("another edge makes no difference")
	}
}

// P5: what is read hangs on the text alone: an error that came ahead changes nothing.
func TestReadAgain(t *testing.T) {
	s := textOf(9, scatter.Edges(3, 9, 30))
	g, _, _ := Read(s)
	for _, wrong := range []string{"", "graph 9 30\n", "graph 9999 1\n", s + "x", s[:len(s)-1], "graph 2 1\n0 1 -1\n"} {
		checkRead(t, wrong)
		if h := checkGraph(t, s, 9, g.Edges()); h == g || !net.Same(g, h) {
			t.Fatalf("behind %q another graph", short(wrong))
		}
	}
}
