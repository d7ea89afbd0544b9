package dec

import (
	"math"
	"math/big"
	"regexp"
	"slices"
	"strings"
	"testing"

	"strait/api"
	"strait/scatter"
)

const (
	lowest  = math.MinInt64
	highest = math.MaxInt64
)

// numbers are some of all sizes: near 0, near the powers of ten and of two, near the ends, and scattered ones.
func numbers() []int64 {
	var l []int64
	for off := range int64(130) {
		l = append(l, off, -off, lowest+off, highest-off)
	}
	for p := int64(10); ; p *= 10 {
		for digit := int64(1); digit <= 9 && p <= highest/digit; digit++ {
			l = append(l, digit*p-1, digit*p, digit*p+1, 1-digit*p, -digit*p, -1-digit*p)
		}
		if p > highest/10 {
			break
		}
	}
	for k := range 63 {
		p := int64(1) << k
		l = append(l, p-1, p, p+1, -p-1, -p, -p+1)
	}
	for i, b := range scatter.Words(1, 600) {
		l = append(l, int64(b)>>(i%64))
	}
	return l
}

// pieces are bytes, and runs of them, that stand in numbers, or look as if they could.
func pieces() []string {
	return []string{"0", "1", "9", "-", " ", "+", "/", ":", ".", "_", "x", "e", "\n", "\t", "\x00", "\xff", "\xc3", "\u00e9", "\u0663", "\uff13", "\u2212"}
}

// shortTexts are all texts of up to four pieces.
func shortTexts() []string {
	all, last := []string{""}, []string{""}
	for range 4 {
		var next []string
		for _, s := range last {
			for _, p := range pieces() {
				next = append(next, s+p)
			}
		}
		all, last = append(all, next...), next
	}
	return all
}

// longTexts are digits of lengths about which something turns, some with - or 0 ahead of them.
func longTexts() []string {
	var l []string
	words := scatter.Words(1, 3000)
	for i := 0; i+2 < len(words); i += 3 {
		all := new(big.Int).SetUint64(words[i])
		all.Mul(all, new(big.Int).SetUint64(words[i+1])).Add(all, new(big.Int).SetUint64(words[i+2]))
		digits := all.String()
		digits = digits[:1+i/3%len(digits)]
		l = append(l, digits, "-"+digits, "0"+digits, "-0"+digits, "--"+digits, digits+"-")
	}
	return l
}

// brinks are the texts of the numbers about the ends of int64, and about the ends of words, where one that wraps round looks small again.
func brinks() []string {
	var l []string
	one := big.NewInt(1)
	for _, k := range []uint{31, 32, 62, 63, 64, 65, 66, 67, 127, 128, 129} {
		for times := int64(1); times <= 11; times++ {
			mid := new(big.Int).Lsh(one, k)
			mid.Mul(mid, big.NewInt(times))
			for off := int64(-25); off <= 25; off++ {
				n := new(big.Int).Add(mid, big.NewInt(off))
				l = append(l, n.String(), "-"+n.String())
			}
		}
	}
	return l
}

// numberForm is what the chapter says of a number's digits.
var numberForm = regexp.MustCompile(`\A(0|-?[1-9][0-9]*)\z`)

// wantNumber is what the chapter says of the number whose digits are s, by numbers that have no end.
func wantNumber(s string) (int64, api.Errno) {
	if !numberForm.MatchString(s) {
		return 0, api.ErrForm
	}
	n, _ := new(big.Int).SetString(s, 10)
	if !n.IsInt64() {
		return 0, api.ErrRange
	}
	return n.Int64(), api.OK
}

// wantNat is what the chapter says of the number up to most whose digits are s.
func wantNat(s string, most int64) (int64, api.Errno) {
	n, e := wantNumber(s)
	if e == api.OK && (n < 0 || n > most) {
		return 0, api.ErrRange
	}
	return n, e
}

// wantList is what the chapter says of the numbers whose text s is.
func wantList(s string) ([]int64, api.Errno, int) {
	if s == "" {
		return nil, api.OK, 0
	}
	var l []int64
	for i, part := range strings.Split(s, " ") {
		n, e := wantNumber(part)
		if e != api.OK {
			return nil, e, i
		}
		l = append(l, n)
	}
	return l, api.OK, 0
}

// short is s, or its beginning where it is long.
func short(s string) string {
	if len(s) > 80 {
		return s[:80] + ".."
	}
	return s
}

func checkParse(t *testing.T, s string, n int64, e api.Errno) {
	t.Helper()
	if gotN, gotE := Parse(s); gotN != n || gotE != e {
		t.Errorf("Parse(%q) = %d %d, not %d %d", short(s), gotN, gotE, n, e)
	}
}

func checkNat(t *testing.T, s string, most, n int64, e api.Errno) {
	t.Helper()
	if gotN, gotE := Nat(s, most); gotN != n || gotE != e {
		t.Errorf("Nat(%q, %d) = %d %d, not %d %d", short(s), most, gotN, gotE, n, e)
	}
}

func checkRead(t *testing.T, s string, l []int64, e api.Errno, at int) {
	t.Helper()
	if gotL, gotE, gotAt := Read(s); !slices.Equal(gotL, l) || gotE != e || gotAt != at {
		t.Errorf("Read(%q) = %v %d %d, not %v %d %d", short(s), gotL, gotE, gotAt, l, e, at)
	}
}

// P6.1: Print tells a number's digits.
func TestPrint(t *testing.T) {
	for n, want := range map[int64]string{
		0:           "0",
		1:           "1",
		-1:          "-1",
		9:           "9",
		10:          "10",
		-10:         "-10",
		120:         "120",
		-907:        "-907",
		1 << 31:     "2147483648",
		highest:     "9223372036854775807",
		-highest:    "-9223372036854775807",
		lowest:      "-9223372036854775808",
		1000000:     "1000000",
		-1000000007: "-1000000007",
	} {
		if got := Print(n); got != want {
			t.Errorf("Print(%d) = %q, not %q", n, got, want)
		}
	}
	for _, n := range numbers() {
		if got, want := Print(n), big.NewInt(n).String(); got != want || !numberForm.MatchString(got) {
			t.Errorf("Print(%d) = %q, not %q", n, got, want)
		}
	}
}

// P6.1: Parse tells the number of just these digits; else ErrForm, where they are none, and then ErrRange, where it does not fit.
func TestParse(t *testing.T) {
	for _, x := range []struct {
		s string
		n int64
		e api.Errno
	}{
		{"0", 0, api.OK},
		{"7", 7, api.OK},
		{"-7", -7, api.OK},
		{"10", 10, api.OK},
		{"-100", -100, api.OK},
		{"1234567890", 1234567890, api.OK},
		{"9223372036854775807", highest, api.OK},
		{"-9223372036854775807", -highest, api.OK},
		{"-9223372036854775808", lowest, api.OK},
		{"9223372036854775808", 0, api.ErrRange},
		{"-9223372036854775809", 0, api.ErrRange},
		{"9223372036854775810", 0, api.ErrRange},
		{"-9223372036854775810", 0, api.ErrRange},
		{"10000000000000000000", 0, api.ErrRange},
		{"18446744073709551616", 0, api.ErrRange},
		{"18446744073709551623", 0, api.ErrRange},
		{"-18446744073709551617", 0, api.ErrRange},
		{"92233720368547758070", 0, api.ErrRange},
		{"340282366920938463463374607431768211457", 0, api.ErrRange},
		{"", 0, api.ErrForm},
		{"-", 0, api.ErrForm},
		{"--1", 0, api.ErrForm},
		{"1-", 0, api.ErrForm},
		{"1-1", 0, api.ErrForm},
		{"-0", 0, api.ErrForm},
		{"00", 0, api.ErrForm},
		{"-00", 0, api.ErrForm},
		{"007", 0, api.ErrForm},
		{"-07", 0, api.ErrForm},
		{"01", 0, api.ErrForm},
		{"+1", 0, api.ErrForm},
		{"-+1", 0, api.ErrForm},
		{" 1", 0, api.ErrForm},
		{"1 ", 0, api.ErrForm},
		{"- 1", 0, api.ErrForm},
		{"1\n", 0, api.ErrForm},
		{"1\x00", 0, api.ErrForm},
		{"1 2", 0, api.ErrForm},
		{"1.0", 0, api.ErrForm},
		{"1e3", 0, api.ErrForm},
		{"0x10", 0, api.ErrForm},
		{"1_000", 0, api.ErrForm},
		{"ten", 0, api.ErrForm},
		{"\u00e9", 0, api.ErrForm},
		{"1\u00e9", 0, api.ErrForm},
		{"\u0663", 0, api.ErrForm},
		{"\uff13", 0, api.ErrForm},
		{"\u22121", 0, api.ErrForm},
		{"\xff", 0, api.ErrForm},
		{"1\xc3", 0, api.ErrForm},
	} {
		checkParse(t, x.s, x.n, x.e)
	}
}

// P6.1: Parse looks at all of the form ahead of the range, however long the text is.
func TestParseFormComesAheadOfRange(t *testing.T) {
	nines := strings.Repeat("9", 1<<20)
	noughts := strings.Repeat("0", 1<<20)
	checkParse(t, nines, 0, api.ErrRange)
	checkParse(t, "-"+nines, 0, api.ErrRange)
	checkParse(t, "1"+noughts, 0, api.ErrRange)
	checkParse(t, "-1"+noughts, 0, api.ErrRange)
	checkParse(t, noughts, 0, api.ErrForm)
	checkParse(t, noughts+"1", 0, api.ErrForm)
	checkParse(t, "0"+nines, 0, api.ErrForm)
	checkParse(t, "-0"+nines, 0, api.ErrForm)
	for _, p := range pieces()[3:] {
		checkParse(t, nines+p, 0, api.ErrForm)
		checkParse(t, "-"+nines+p, 0, api.ErrForm)
		checkParse(t, nines+p+nines, 0, api.ErrForm)
	}
}

// P6.1: Parse takes no byte but the ten digits, and - ahead of them, wherever it stands.
func TestParseOfEachByte(t *testing.T) {
	taken := 0
	for b := range 256 {
		one := string([]byte{byte(b)})
		for _, s := range []string{one, one + "5", "5" + one, "5" + one + "5", "-" + one, "-" + one + "5", "-5" + one} {
			n, e := wantNumber(s)
			checkParse(t, s, n, e)
			if e == api.OK {
				taken++
			}
		}
	}
	if taken != 10+9+1+10+10+9+9+10 {
		t.Errorf("%d texts are taken", taken)
	}
}

// P6.1: Parse and Nat, of texts of all kinds, against numbers that have no end.
func TestParseAndNatAgainstLongNumbers(t *testing.T) {
	counts := map[api.Errno]int{}
	for _, s := range slices.Concat(shortTexts(), longTexts(), brinks()) {
		n, e := wantNumber(s)
		checkParse(t, s, n, e)
		counts[e]++
		for _, most := range []int64{lowest, -1, 0, 9, highest - 1, highest, n - 1, n, n + 1, -n} {
			n, e := wantNat(s, most)
			checkNat(t, s, most, n, e)
		}
	}
	if len(counts) != 3 || counts[api.OK] < 500 || counts[api.ErrForm] < 500 || counts[api.ErrRange] < 500 {
		t.Errorf("too few of one kind: %v", counts)
	}
}

// P6.1: Nat tells Parse's error, then ErrRange of what is below 0 or above most, else the number.
func TestNat(t *testing.T) {
	for _, x := range []struct {
		s       string
		most, n int64
		e       api.Errno
	}{
		{"0", 0, 0, api.OK},
		{"8", 8, 8, api.OK},
		{"7", 8, 7, api.OK},
		{"9", 8, 0, api.ErrRange},
		{"0", 8, 0, api.OK},
		{"1", 0, 0, api.ErrRange},
		{"-1", 8, 0, api.ErrRange},
		{"-1", -1, 0, api.ErrRange},
		{"-2", -1, 0, api.ErrRange},
		{"0", -1, 0, api.ErrRange},
		{"0", lowest, 0, api.ErrRange},
		{"-9223372036854775808", lowest, 0, api.ErrRange},
		{"-9223372036854775808", highest, 0, api.ErrRange},
		{"9223372036854775807", highest, highest, api.OK},
		{"9223372036854775807", highest - 1, 0, api.ErrRange},
		{"9223372036854775808", highest, 0, api.ErrRange},
		{"4294967296", 1 << 32, 1 << 32, api.OK},
		{"4294967297", 1 << 32, 0, api.ErrRange},
		{"", highest, 0, api.ErrForm},
		{"-0", 8, 0, api.ErrForm},
		{"08", 8, 0, api.ErrForm},
		{"+8", 8, 0, api.ErrForm},
		{"8 ", 8, 0, api.ErrForm},
		{"99 ", 8, 0, api.ErrForm},
		{"-01", -1, 0, api.ErrForm},
		{"x", -1, 0, api.ErrForm},
	} {
		checkNat(t, x.s, x.most, x.n, x.e)
	}
}

// P6.2: List tells the digits of each, with one blank between two.
func TestList(t *testing.T) {
	for _, x := range []struct {
		l    []int64
		want string
	}{
		{nil, ""},
		{[]int64{}, ""},
		{[]int64{0}, "0"},
		{[]int64{-5}, "-5"},
		{[]int64{0, 0}, "0 0"},
		{[]int64{-5, 7}, "-5 7"},
		{[]int64{7, -5, 7}, "7 -5 7"},
		{[]int64{lowest, 0, highest}, "-9223372036854775808 0 9223372036854775807"},
	} {
		if got := List(x.l); got != x.want {
			t.Errorf("List(%v) = %q, not %q", x.l, got, x.want)
		}
	}
	l := numbers()
	digits := make([]string, len(l))
	for i, n := range l {
		digits[i] = big.NewInt(n).String()
		if got, want := List(l[:i+1]), strings.Join(digits[:i+1], " "); got != want {
			t.Fatalf("List of %d numbers is another text", i+1)
		}
	}
}

// P6.2: Read tells the numbers; else Parse's error of the first part that has one, and its place.
func TestRead(t *testing.T) {
	for _, x := range []struct {
		s  string
		l  []int64
		e  api.Errno
		at int
	}{
		{"", nil, api.OK, 0},
		{"0", []int64{0}, api.OK, 0},
		{"-5", []int64{-5}, api.OK, 0},
		{"-5 7", []int64{-5, 7}, api.OK, 0},
		{"3 1 2 1 3", []int64{3, 1, 2, 1, 3}, api.OK, 0},
		{"-9223372036854775808 9223372036854775807", []int64{lowest, highest}, api.OK, 0},
		{" ", nil, api.ErrForm, 0},
		{"  ", nil, api.ErrForm, 0},
		{" 1", nil, api.ErrForm, 0},
		{"1 ", nil, api.ErrForm, 1},
		{"1 2 ", nil, api.ErrForm, 2},
		{"1  2", nil, api.ErrForm, 1},
		{"1 2  3", nil, api.ErrForm, 2},
		{"1\t2", nil, api.ErrForm, 0},
		{"1\n2", nil, api.ErrForm, 0},
		{"1 2\n", nil, api.ErrForm, 1},
		{"1,2", nil, api.ErrForm, 0},
		{"1\u00a02", nil, api.ErrForm, 0},
		{"1 -0", nil, api.ErrForm, 1},
		{"1 007 -0", nil, api.ErrForm, 1},
		{"1 - 2", nil, api.ErrForm, 1},
		{"9223372036854775808", nil, api.ErrRange, 0},
		{"1 2 -9223372036854775809", nil, api.ErrRange, 2},
		{"1 9223372036854775808 x", nil, api.ErrRange, 1},
		{"1 x 9223372036854775808", nil, api.ErrForm, 1},
		{"9223372036854775808 ", nil, api.ErrRange, 0},
		{" 9223372036854775808", nil, api.ErrForm, 0},
	} {
		checkRead(t, x.s, x.l, x.e, x.at)
	}
}

// P6.2: Read, of a text whose part at each place is none, and where others behind it are none either.
func TestReadAtEachPlace(t *testing.T) {
	parts := strings.Split(List(numbers()[:40]), " ")
	for _, wrong := range []struct {
		part string
		e    api.Errno
	}{
		{"", api.ErrForm},
		{"-", api.ErrForm},
		{"-0", api.ErrForm},
		{"007", api.ErrForm},
		{"99999999999999999999x", api.ErrForm},
		{"99999999999999999999", api.ErrRange},
		{"-9223372036854775809", api.ErrRange},
	} {
		for i := range parts {
			l := slices.Clone(parts)
			l[i] = wrong.part
			checkRead(t, strings.Join(l, " "), nil, wrong.e, i)
			for _, behind := range []string{"", "x", "9223372036854775808"} {
				if i+1 < len(l) {
					l[i+1+i%(len(l)-i-1)] = behind
					checkRead(t, strings.Join(l, " "), nil, wrong.e, i)
				}
			}
		}
	}
}

// P6.2: Read, of texts of all kinds, against numbers that have no end.
func TestReadAgainstLongNumbers(t *testing.T) {
	all := slices.Concat(shortTexts(), longTexts(), brinks())
	for i, s := range all {
		l, e, at := wantList(s)
		checkRead(t, s, l, e, at)
		s += " " + all[(i*7919)%len(all)] + " " + all[(i*104729)%len(all)]
		l, e, at = wantList(s)
		checkRead(t, s, l, e, at)
	}
}

// P6.2: Read and List, of a text of many parts.
func TestLongLists(t *testing.T) {
	l := make([]int64, 1<<17)
	for i, b := range scatter.Words(1, len(l)) {
		l[i] = int64(b) >> (i % 64)
	}
	s := List(l)
	checkRead(t, s, l, api.OK, 0)
	checkRead(t, s+" ", nil, api.ErrForm, len(l))
	checkRead(t, s+" 9223372036854775808", nil, api.ErrRange, len(l))
	checkRead(t, strings.Repeat(" ", 1<<20), nil, api.ErrForm, 0)
}

// P6.3: what was printed is read.
func TestPrintedIsRead(t *testing.T) {
	l := numbers()
	for i, n := range l {
		checkParse(t, Print(n), n, api.OK)
		if n >= 0 {
			checkNat(t, Print(n), n, n, api.OK)
		}
		part := l[i : i+min(i%5, len(l)-i)]
		checkRead(t, List(part), part, api.OK, 0)
		if i > 0 && l[i-1] != n && Print(l[i-1]) == Print(n) {
			t.Errorf("%d and %d are printed alike", l[i-1], n)
		}
	}
	checkRead(t, List(l), l, api.OK, 0)
}

// P6.3: what is read of any text has just this text.
func TestReadHasItsText(t *testing.T) {
	numbersRead, listsRead := 0, 0
	for _, s := range slices.Concat(shortTexts(), longTexts(), brinks()) {
		if n, e := Parse(s); e == api.OK {
			numbersRead++
			if Print(n) != s {
				t.Errorf("Parse(%q) = %d", s, n)
			}
		}
		for _, text := range []string{s, "5 " + s, s + " -6"} {
			l, e, _ := Read(text)
			if e != api.OK {
				continue
			}
			listsRead++
			if List(l) != text {
				t.Errorf("Read(%q) = %v", text, l)
			}
		}
	}
	if numbersRead < 1000 || listsRead < 3*numbersRead {
		t.Errorf("only %d numbers and %d lists were read", numbersRead, listsRead)
	}
}

// P6.2, and P4: List neither changes its list nor reads behind it, and what Read tells is new memory.
func TestListsAreLeftAlone(t *testing.T) {
	room := []int64{4, -5, 6, 77, 88}
	if got := List(room[:3]); got != "4 -5 6" {
		t.Errorf("List = %q", got)
	}
	if got := List(room[:0]); got != "" {
		t.Errorf("List of none = %q", got)
	}
	if !slices.Equal(room, []int64{4, -5, 6, 77, 88}) {
		t.Errorf("the list is %v now", room)
	}
	l, _, _ := Read("1 2 3")
	clear(l[:cap(l)])
	checkRead(t, "1 2 3", []int64{1, 2, 3}, api.OK, 0)
}
