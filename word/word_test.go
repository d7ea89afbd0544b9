package word

import (
	"regexp"
	"slices"
	"strings"
	"testing"
)

// pieces are bytes, and runs of them, that cut a text, or look as if they could.
func pieces() []string {
	return []string{"a", "b7", "\n", " ", "\r", "\t", "\x00", "\xff", "\u00e9", "\u00a0", "\u2028"}
}

// shortTexts are all texts of up to five pieces.
func shortTexts() []string {
	all, last := []string{""}, []string{""}
	for range 5 {
		var next []string
		for _, s := range last {
			for _, p := range pieces() {
				next = append(next, s+p)
			}
		}
		all, last = append(all, next...), next
	}
	return all
}

// parts are texts to be put together, words and others.
func parts() []string {
	return []string{"a", "b7", "!~", "\x00", "\xff", "\u00e9", "\u00a0", "\r", "\t", "", " ", "\n", "a b", "a\nb", " a", "a ", "\na", "a\n"}
}

// shortLists are all lists of up to three parts.
func shortLists() [][]string {
	all, last := [][]string{nil}, [][]string{nil}
	for range 3 {
		var next [][]string
		for _, l := range last {
			for _, p := range parts() {
				next = append(next, append(slices.Clone(l), p))
			}
		}
		all, last = append(all, next...), next
	}
	return all
}

// wordsForm is what the chapter says of a line that has words.
var wordsForm = regexp.MustCompile(`\A[^ \n]+( [^ \n]+)*\z`)

// wordForm is what the chapter says of a word.
var wordForm = regexp.MustCompile(`\A[^ \n]+\z`)

// wantLines is what the chapter says of the lines of s.
func wantLines(s string) ([]string, bool) {
	l := strings.SplitAfter(s, "\n")
	if l[len(l)-1] != "" {
		return nil, false
	}
	l = l[:len(l)-1]
	for i := range l {
		l[i] = strings.TrimSuffix(l[i], "\n")
	}
	return l, true
}

// wantWords is what the chapter says of the words of s.
func wantWords(s string) ([]string, bool) {
	if s == "" {
		return nil, true
	}
	if !wordsForm.MatchString(s) {
		return nil, false
	}
	return strings.Split(s, " "), true
}

// wantLine is what the chapter says of the line of l.
func wantLine(l []string) (string, bool) {
	s := ""
	for i, part := range l {
		if !wordForm.MatchString(part) {
			return "", false
		}
		if i > 0 {
			s += " "
		}
		s += part
	}
	return s, true
}

// short is s, or its beginning where it is long.
func short(s string) string {
	if len(s) > 80 {
		return s[:80] + ".."
	}
	return s
}

func checkLines(t *testing.T, s string, l []string, ok bool) {
	t.Helper()
	if gotL, gotOK := Lines(s); !slices.Equal(gotL, l) || gotOK != ok {
		t.Errorf("Lines(%q) = %d lines %t, not %d %t, or others", short(s), len(gotL), gotOK, len(l), ok)
	}
}

func checkWords(t *testing.T, s string, l []string, ok bool) {
	t.Helper()
	if gotL, gotOK := Words(s); !slices.Equal(gotL, l) || gotOK != ok {
		t.Errorf("Words(%q) = %d words %t, not %d %t, or others", short(s), len(gotL), gotOK, len(l), ok)
	}
}

func checkLine(t *testing.T, l []string, s string, ok bool) {
	t.Helper()
	if gotS, gotOK := Line(l); gotS != s || gotOK != ok {
		t.Errorf("Line(%q) = %q %t, not %q %t", l, short(gotS), gotOK, short(s), ok)
	}
}

func checkText(t *testing.T, l [][]string, s string, ok bool) {
	t.Helper()
	if gotS, gotOK := Text(l); gotS != s || gotOK != ok {
		t.Errorf("Text(%q) = %q %t, not %q %t", l, short(gotS), gotOK, short(s), ok)
	}
}

// P7.1: Lines tells what stands ahead of each 10, or none where bytes are left behind the last one.
func TestLines(t *testing.T) {
	for _, x := range []struct {
		s  string
		l  []string
		ok bool
	}{
		{"", nil, true},
		{"\n", []string{""}, true},
		{"\n\n\n", []string{"", "", ""}, true},
		{"a\n", []string{"a"}, true},
		{"a\nb\n", []string{"a", "b"}, true},
		{"a\n\nb c\n", []string{"a", "", "b c"}, true},
		{"\na\n", []string{"", "a"}, true},
		{"a\na\na\n", []string{"a", "a", "a"}, true},
		{" \n  a  \n", []string{" ", "  a  "}, true},
		{"a\r\nb\r\n", []string{"a\r", "b\r"}, true},
		{"a\x00b\v\f\n", []string{"a\x00b\v\f"}, true},
		{"\xff\n\u2028\u0085\n", []string{"\xff", "\u2028\u0085"}, true},
		{"graph 2 1\n0 1 5\n", []string{"graph 2 1", "0 1 5"}, true},
		{"a", nil, false},
		{" ", nil, false},
		{"\r", nil, false},
		{"\x00", nil, false},
		{"\xff", nil, false},
		{"a\nb", nil, false},
		{"\na", nil, false},
		{"a\n\n ", nil, false},
		{"graph 2 1\n0 1 5", nil, false},
	} {
		checkLines(t, x.s, x.l, x.ok)
	}
}

// P7.1: Words tells what stands between blanks; none of what has a 10, a blank at an end, or one behind another.
func TestWords(t *testing.T) {
	for _, x := range []struct {
		s  string
		l  []string
		ok bool
	}{
		{"", nil, true},
		{"a", []string{"a"}, true},
		{"a b", []string{"a", "b"}, true},
		{"a b c", []string{"a", "b", "c"}, true},
		{"a a a", []string{"a", "a", "a"}, true},
		{"graph 20 1", []string{"graph", "20", "1"}, true},
		{"a\tb c\r", []string{"a\tb", "c\r"}, true},
		{"\x00 \xff \u00e9", []string{"\x00", "\xff", "\u00e9"}, true},
		{"a\u00a0b \u3000", []string{"a\u00a0b", "\u3000"}, true},
		{"\t", []string{"\t"}, true},
		{" ", nil, false},
		{"  ", nil, false},
		{" a", nil, false},
		{"a ", nil, false},
		{"a b ", nil, false},
		{" a b", nil, false},
		{"a  b", nil, false},
		{"a b  c", nil, false},
		{"a   b", nil, false},
		{"\n", nil, false},
		{"a\n", nil, false},
		{"\na", nil, false},
		{"a\nb", nil, false},
		{"a b\n", nil, false},
		{"a\nb c", nil, false},
		{"a b\nc d", nil, false},
		{"a \n", nil, false},
		{"a \n b", nil, false},
		{"\n a", nil, false},
	} {
		checkWords(t, x.s, x.l, x.ok)
	}
}

// P7.1: Lines and Words, of all short texts of bytes that cut, or look as if they could.
func TestLinesAndWordsOfShortTexts(t *testing.T) {
	lines, words := 0, 0
	for _, s := range shortTexts() {
		l, ok := wantLines(s)
		checkLines(t, s, l, ok)
		if ok {
			lines++
		}
		l, ok = wantWords(s)
		checkWords(t, s, l, ok)
		if ok {
			words++
		}
	}
	if lines < 10000 || words < 50000 {
		t.Errorf("only %d texts have lines and %d have words", lines, words)
	}
}

// P7.1: no byte but 10 ends a line, none but 32 a word, wherever it stands.
func TestCutsOfEachByte(t *testing.T) {
	for b := range 256 {
		one := string([]byte{byte(b)})
		for _, s := range []string{one, one + "a", "a" + one, "a" + one + "a", "a " + one, one + " a", "a" + one + "a b"} {
			l, ok := wantLines(s + "\n")
			checkLines(t, s+"\n", l, ok)
			if b != '\n' {
				checkLines(t, s+"\n", []string{s}, true)
				checkLines(t, s, nil, false)
			}
			l, ok = wantWords(s)
			checkWords(t, s, l, ok)
			if b != '\n' && b != ' ' {
				checkWords(t, s, strings.Split(s, " "), true)
			}
		}
	}
}

// P7.1: Lines and Words, of long texts, where what can't be stands at one place.
func TestCutsOfLongTexts(t *testing.T) {
	const n = 1 << 20
	all := slices.Repeat([]string{"ab"}, n)
	line := strings.Repeat("ab ", n-1) + "ab"
	checkWords(t, line, all, true)
	checkWords(t, line+" ", nil, false)
	checkWords(t, " "+line, nil, false)
	checkWords(t, line+"\n", nil, false)
	checkWords(t, line[:n]+"  "+line[n:], nil, false)
	checkWords(t, strings.Repeat(" ", 3*n), nil, false)
	checkWords(t, strings.Repeat("ab", n), []string{strings.Repeat("ab", n)}, true)

	text := strings.Repeat("ab\n", n)
	checkLines(t, text, all, true)
	checkLines(t, text+"a", nil, false)
	checkLines(t, text[:len(text)-1], nil, false)
	checkLines(t, strings.Repeat("\n", n), slices.Repeat([]string{""}, n), true)
	checkLines(t, strings.Repeat("ab", n)+"\n", []string{strings.Repeat("ab", n)}, true)
	checkLines(t, strings.Repeat("ab", n), nil, false)
}

// P7.1: Plain tells whether all bytes are from 33 to 126.
func TestPlain(t *testing.T) {
	for s, want := range map[string]bool{
		"":           true,
		"!":          true,
		"~":          true,
		"abcXYZ019":  true,
		"!\"#$%&'()": true,
		"*+,-./:;<=": true,
		">?@[]^_`{|": true,
		"}~\\":       true,
		" ":          false,
		"a b":        false,
		" a":         false,
		"a ":         false,
		"a\n":        false,
		"\x00":       false,
		"\x1f":       false,
		"\x7f":       false,
		"\x80":       false,
		"\xff":       false,
		"\xa1":       false,
		"\u00e9":     false,
		"a\u00e9":    false,
		"\u0121":     false,
		"\uff21":     false,
	} {
		if got := Plain(s); got != want {
			t.Errorf("Plain(%q) = %t", s, got)
		}
	}
}

// P7.1: Plain looks at each byte, wherever it stands.
func TestPlainOfEachByte(t *testing.T) {
	const n = 9
	for b := range 256 {
		want := b >= 33 && b <= 126
		for i := range n {
			s := []byte(strings.Repeat("x", n))
			s[i] = byte(b)
			if got := Plain(string(s)); got != want {
				t.Errorf("Plain(%q) = %t", s, got)
			}
		}
	}
	long := strings.Repeat("!~", 1<<20)
	if !Plain(long) || Plain(long+" ") || Plain(" "+long) {
		t.Error("Plain of long texts")
	}
}

// P7.2: Line tells the words with one blank between two, or nothing where one is no word.
func TestLine(t *testing.T) {
	for _, x := range []struct {
		l  []string
		s  string
		ok bool
	}{
		{nil, "", true},
		{[]string{}, "", true},
		{[]string{"a"}, "a", true},
		{[]string{"a", "b"}, "a b", true},
		{[]string{"b", "a", "b"}, "b a b", true},
		{[]string{"graph", "2", "1"}, "graph 2 1", true},
		{[]string{"\t", "\x00", "\xff", "\u00a0"}, "\t \x00 \xff \u00a0", true},
		{[]string{""}, "", false},
		{[]string{"", ""}, "", false},
		{[]string{" "}, "", false},
		{[]string{"\n"}, "", false},
		{[]string{"a", ""}, "", false},
		{[]string{"", "a"}, "", false},
		{[]string{"a", "", "b"}, "", false},
		{[]string{"a", "b c"}, "", false},
		{[]string{"a b"}, "", false},
		{[]string{"a\n"}, "", false},
		{[]string{"\na", "b"}, "", false},
		{[]string{"a", " b"}, "", false},
		{[]string{"a ", "b"}, "", false},
	} {
		checkLine(t, x.l, x.s, x.ok)
	}
}

// P7.2: Line, of all short lists of words and of what is none, and of a word with each byte.
func TestLineOfShortLists(t *testing.T) {
	for _, l := range shortLists() {
		s, ok := wantLine(l)
		checkLine(t, l, s, ok)
	}
	for b := range 256 {
		one := string([]byte{byte(b)})
		for _, part := range []string{one, one + "a", "a" + one, "a" + one + "a"} {
			for _, l := range [][]string{{part}, {"x", part}, {part, "x"}} {
				if b == '\n' || b == ' ' {
					checkLine(t, l, "", false)
				} else {
					checkLine(t, l, strings.Join(l, " "), true)
				}
			}
		}
	}
}

// P7.2: Line and Text, where what is no word stands at each place of a list.
func TestWrongWordAtEachPlace(t *testing.T) {
	const n = 20
	words := slices.Repeat([]string{"ab"}, n)
	checkLine(t, words, strings.Repeat("ab ", n-1)+"ab", true)
	checkText(t, slices.Repeat([][]string{words}, n), strings.Repeat(strings.Repeat("ab ", n-1)+"ab\n", n), true)
	for i := range n {
		for _, wrong := range []string{"", " ", "\n", "a b", "a\nb", "a ", "\na"} {
			l := slices.Clone(words)
			l[i] = wrong
			checkLine(t, l, "", false)
			for j := range n {
				lines := slices.Repeat([][]string{words}, n)
				lines[j] = l
				checkText(t, lines, "", false)
			}
		}
	}
}

// P7.2: Text tells the lines, each with a 10 behind it, or nothing where one can't be.
func TestText(t *testing.T) {
	for _, x := range []struct {
		l  [][]string
		s  string
		ok bool
	}{
		{nil, "", true},
		{[][]string{}, "", true},
		{[][]string{nil}, "\n", true},
		{[][]string{{}}, "\n", true},
		{[][]string{nil, {}, nil}, "\n\n\n", true},
		{[][]string{{"a"}}, "a\n", true},
		{[][]string{{"a", "b"}}, "a b\n", true},
		{[][]string{{"a"}, {"b"}}, "a\nb\n", true},
		{[][]string{{"a", "b"}, nil, {"c"}}, "a b\n\nc\n", true},
		{[][]string{{"graph", "2", "1"}, {"0", "1", "5"}}, "graph 2 1\n0 1 5\n", true},
		{[][]string{{"\r"}, {"\xff"}}, "\r\n\xff\n", true},
		{[][]string{{""}}, "", false},
		{[][]string{{"a", ""}}, "", false},
		{[][]string{{"a"}, {""}}, "", false},
		{[][]string{{"\n"}, {"a"}}, "", false},
		{[][]string{nil, {" "}}, "", false},
		{[][]string{{"a b"}}, "", false},
		{[][]string{{"a"}, {"b", "c\nd"}, {"e"}}, "", false},
	} {
		checkText(t, x.l, x.s, x.ok)
	}
}

// P7.2: Key tells the place of the first key that is the same text, or -1.
func TestKey(t *testing.T) {
	keys := []string{"load", "build", "", "query", "build", "Query", "a b", "\xff", "que", ""}
	for s, want := range map[string]int{
		"load":   0,
		"build":  1,
		"":       2,
		"query":  3,
		"Query":  5,
		"a b":    6,
		"\xff":   7,
		"que":    8,
		"q":      -1,
		"querys": -1,
		"LOAD":   -1,
		"load ":  -1,
		" load":  -1,
		"\xfe":   -1,
		"\ufffd": -1,
		"a":      -1,
	} {
		if got := Key(s, keys); got != want {
			t.Errorf("Key(%q) = %d, not %d", s, got, want)
		}
	}
	for _, s := range []string{"", "a"} {
		if Key(s, nil) != -1 || Key(s, []string{}) != -1 || Key(s, keys[:0]) != -1 {
			t.Errorf("Key(%q) of no keys", s)
		}
	}
}

// P7.2: Key, of lists in which a text stands at one place, at two, and behind the end.
func TestKeyAtEachPlace(t *testing.T) {
	const n = 30
	for i := range n {
		keys := slices.Repeat([]string{"x"}, n)
		keys[i] = "key"
		if got := Key("key", keys); got != i {
			t.Errorf("Key at %d = %d", i, got)
		}
		if got := Key("key", keys[:i]); got != -1 {
			t.Errorf("Key behind the end %d = %d", i, got)
		}
		keys[n-1] = "key"
		if got := Key("key", keys); got != i {
			t.Errorf("Key at %d, and at the end = %d", i, got)
		}
	}
}

// P7.3: words that are put together are cut apart again, and those that are cut apart are put together.
func TestWordsAndLineAreOfEachOther(t *testing.T) {
	made, cut := 0, 0
	for _, l := range shortLists() {
		if s, ok := Line(l); ok {
			made++
			checkWords(t, s, l, true)
			checkLines(t, s+"\n", []string{s}, true)
		}
	}
	for _, s := range shortTexts() {
		if l, ok := Words(s); ok {
			cut++
			checkLine(t, l, s, true)
		}
	}
	if made < 800 || cut < 50000 {
		t.Errorf("only %d lines were made and %d cut", made, cut)
	}
}

// P7.3: lines that are put together are cut apart again, and those that are cut apart are put together.
func TestLinesAndTextAreOfEachOther(t *testing.T) {
	lists := shortLists()
	made, cut := 0, 0
	for i, l := range lists {
		all := [][]string{l, lists[i*7919%len(lists)], l}[:1+i%3]
		s, ok := Text(all)
		if !ok {
			continue
		}
		made++
		lines, ok := Lines(s)
		if !ok || len(lines) != len(all) {
			t.Errorf("Lines(%q) = %q %t", s, lines, ok)
			continue
		}
		for k, line := range lines {
			checkWords(t, line, all[k], true)
		}
	}
	for _, s := range shortTexts() {
		if all, ok := wordsOfLines(s); ok {
			cut++
			checkText(t, all, s, true)
		}
	}
	if made < 300 || cut < 5000 {
		t.Errorf("only %d texts were made and %d cut", made, cut)
	}
}

// wordsOfLines are the words of all lines of s, if it has lines and they have words.
func wordsOfLines(s string) ([][]string, bool) {
	lines, ok := Lines(s)
	if !ok {
		return nil, false
	}
	all := make([][]string, len(lines))
	for i, line := range lines {
		if all[i], ok = Words(line); !ok {
			return nil, false
		}
	}
	return all, true
}

// P7.1, P7.2, and P4: lists that are handed in are neither changed nor read behind their ends, and those that are told are new memory.
func TestListsAreLeftAlone(t *testing.T) {
	room := []string{"a", "b", "", "a b", "\n"}
	checkLine(t, room[:2], "a b", true)
	checkLine(t, room[:0], "", true)
	lines := [][]string{room[:2], room[:1], room[:3], nil}
	checkText(t, lines[:2], "a b\na\n", true)
	checkText(t, lines[:0], "", true)
	checkText(t, lines, "", false)
	if Key("", room[:2]) != -1 || Key("b", room[:2]) != 1 {
		t.Error("Key of a part")
	}
	if !slices.Equal(room, []string{"a", "b", "", "a b", "\n"}) || len(lines[0]) != 2 || len(lines[1]) != 1 || len(lines[2]) != 3 || lines[3] != nil {
		t.Errorf("the lists are %q and %q now", room, lines)
	}
	words, _ := Words("a b c")
	clear(words[:cap(words)])
	checkWords(t, "a b c", []string{"a", "b", "c"}, true)
	cut, _ := Lines("a\nb\nc\n")
	clear(cut[:cap(cut)])
	checkLines(t, "a\nb\nc\n", []string{"a", "b", "c"}, true)
}
