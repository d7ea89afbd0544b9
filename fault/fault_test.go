package fault

import (
	"errors"
	"fmt"
	"math"
	"slices"
	"strings"
	"testing"

	"strait/api"
)

// errnos are all errors that there are, and numbers beside them.
func errnos() []api.Errno {
	l := []api.Errno{math.MinInt, -20, -1, api.ErrFull + 1, 1 << 31, math.MaxInt}
	for e := api.ErrArg; e <= api.ErrFull; e++ {
		l = append(l, e)
	}
	return l
}

// places are places, and numbers that are none.
func places() []int {
	return []int{0, 1, 7, 10, 4096, 1 << 31, math.MaxInt, -1, -10, math.MinInt}
}

// plain is an error that knows nothing of faults.
var plain = errors.New("plain")

// list is an error that can't be held against another one by ==.
type list []string

func (l list) Error() string { return strings.Join(l, ",") }

// nilful is an error that panics at each question when it is a nil one.
type nilful struct{ text string }

func (n *nilful) Error() string      { return n.text }
func (n *nilful) Unwrap() error      { return errors.New(n.text) }
func (n *nilful) Is(error) bool      { return n.text == "" }
func (n *nilful) As(target any) bool { return n.text == "" }

// joined is nilful that wraps several.
type joined struct{ texts []error }

func (j *joined) Error() string   { return "joined" }
func (j *joined) Unwrap() []error { return j.texts }

// liar says that it is whatever it is asked for, and does not tell it.
type liar struct{}

func (liar) Error() string { return "liar" }
func (liar) As(any) bool   { return true }

// like is an error that says that it is ErrTree.
type like struct{}

func (like) Error() string        { return "like" }
func (like) Is(target error) bool { return target == error(api.ErrTree) }

// giver is an error that tells a fault when it is asked for one, and whether that is so.
type giver struct {
	f    *Fault
	isSo bool
}

func (giver) Error() string { return "giver" }
func (g giver) As(target any) bool {
	f, ok := target.(**Fault)
	if ok {
		*f = g.f
	}
	return ok && g.isSo
}

// changing is an error whose text is told anew each time.
type changing struct{ text *string }

func (c changing) Error() string { return *c.text }

// noFault is a nil fault that is no nil error.
func noFault() error {
	var f *Fault
	return f
}

// P8.1: At is a fault of that error at that place, whatever both are.
func TestAt(t *testing.T) {
	for _, e := range errnos() {
		for _, at := range places() {
			err := At(e, at)
			f, ok := err.(*Fault)
			if !ok || *f != (Fault{e, at}) {
				t.Fatalf("At(%d, %d): %#v", e, at, err)
			}
			if want := fmt.Sprintf("error %d at %d", int(e), at); err.Error() != want {
				t.Errorf("At(%d, %d): %q", e, at, err.Error())
			}
		}
	}
}

// P8.1: At of OK is nil, at each place.
func TestAtOfOK(t *testing.T) {
	for _, at := range places() {
		if err := At(api.OK, at); err != nil {
			t.Errorf("At(OK, %d): %#v", at, err)
		}
	}
}

// P8.1: the text of a fault.
func TestFaultText(t *testing.T) {
	for _, c := range []struct {
		f    *Fault
		want string
	}{
		{nil, ""},
		{&Fault{}, "error 0 at 0"},
		{&Fault{api.OK, 12}, "error 0 at 12"},
		{&Fault{api.ErrForm, 7}, "error 2 at 7"},
		{&Fault{api.ErrFull, 100}, "error 19 at 100"},
		{&Fault{-3, -40}, "error -3 at -40"},
		{&Fault{math.MaxInt64, math.MinInt64}, "error 9223372036854775807 at -9223372036854775808"},
	} {
		if s := c.f.Error(); s != c.want {
			t.Errorf("%q, not %q", s, c.want)
		}
	}
}

// P8.1: what a fault wraps is its error; a nil one wraps nothing.
func TestFaultUnwrap(t *testing.T) {
	for _, e := range append(errnos(), api.OK) {
		err := (&Fault{e, 3}).Unwrap()
		if n, ok := err.(api.Errno); !ok || n != e {
			t.Errorf("%d: %#v", e, err)
		}
	}
	if err := (*Fault)(nil).Unwrap(); err != nil {
		t.Errorf("nil: %#v", err)
	}
}

// P8.1: the text of an error that is of a part.
func TestWithinText(t *testing.T) {
	form := At(api.ErrForm, 7)
	for _, c := range []struct {
		err  error
		want string
	}{
		{Within(form, "line"), "line: error 2 at 7"},
		{Within(form, ""), ": error 2 at 7"},
		{Within(form, "a: b/c\n"), "a: b/c\n: error 2 at 7"},
		{Within(form, "\xff\x00\u00e9"), "\xff\x00\u00e9: error 2 at 7"},
		{Within(Within(form, "line"), "text"), "text: line: error 2 at 7"},
		{Within(Within(Within(form, "a"), ""), "a"), "a: : a: error 2 at 7"},
		{Within(api.ErrLong, "line"), "line: strait: an error"},
		{Within(plain, "line"), "line: plain"},
		{Within(fmt.Errorf("by %w", Within(form, "line")), "text"), "text: by line: error 2 at 7"},
		{Within(errors.Join(Within(form, "a"), plain), "text"), "text: a: error 2 at 7\nplain"},
		{Within(noFault(), "line"), "line: "},
		{Within(list{"x", "y"}, "line"), "line: x,y"},
	} {
		if s := c.err.Error(); s != c.want {
			t.Errorf("%q, not %q", s, c.want)
		}
	}
}

// P8.1: Within of nil is nil, whatever the part.
func TestWithinOfNil(t *testing.T) {
	for _, part := range []string{"", "line", "a/b"} {
		if err := Within(nil, part); err != nil {
			t.Errorf("%q: %#v", part, err)
		}
	}
	if err := Within(Within(At(api.OK, 3), "line"), "text"); err != nil {
		t.Errorf("twice: %#v", err)
	}
}

// P8.1: Within wraps just the error that it is handed.
func TestWithinWraps(t *testing.T) {
	for _, err := range []error{At(api.ErrForm, 7), At(api.ErrFull, -1), api.ErrLong, plain, Within(plain, "x"), &nilful{"n"}} {
		if in := errors.Unwrap(Within(err, "line")); in == nil || in != err {
			t.Errorf("%v: %v", err, in)
		}
		if !errors.Is(Within(Within(err, "line"), "text"), err) {
			t.Errorf("%v is not within", err)
		}
	}
}

// P8.1: what is told of an error tells nothing of another one that wraps the same.
func TestWithinTwiceOfTheSame(t *testing.T) {
	form := Within(At(api.ErrForm, 7), "line")
	a, b := Within(form, "a"), Within(form, "b")
	if Path(a) != "a/line" || Path(b) != "b/line" || Path(form) != "line" {
		t.Errorf("%q, %q, %q", Path(a), Path(b), Path(form))
	}
	if a.Error() != "a: line: error 2 at 7" || form.Error() != "line: error 2 at 7" {
		t.Errorf("%q, %q", a, form)
	}
}

// P8.1: the text is the one that what is wrapped has.
func TestWithinTellsTheTextThatThereIs(t *testing.T) {
	text := "old"
	err := Within(changing{&text}, "line")
	text = "new"
	if err.Error() != "line: new" {
		t.Errorf("%q", err)
	}
}

// P8.2: number and place of the fault that an error is or wraps.
func TestOf(t *testing.T) {
	form, long := At(api.ErrForm, 7), At(api.ErrLong, -3)
	for _, c := range []struct {
		name string
		err  error
		e    api.Errno
		at   int
		ok   bool
	}{
		{"nil", nil, 0, 0, false},
		{"nil fault", noFault(), 0, 0, false},
		{"nil fault within", Within(noFault(), "line"), 0, 0, false},
		{"a number alone", api.ErrLong, 0, 0, false},
		{"OK alone", api.OK, 0, 0, false},
		{"a number within", Within(api.ErrLong, "line"), 0, 0, false},
		{"plain", plain, 0, 0, false},
		{"plain within", Within(plain, "line"), 0, 0, false},
		{"a list", list{"x"}, 0, 0, false},
		{"a fault", form, api.ErrForm, 7, true},
		{"a fault below 0", long, api.ErrLong, -3, true},
		{"a fault at 0", At(api.ErrArg, 0), api.ErrArg, 0, true},
		{"a fault made by hand", &Fault{api.ErrCut, 2}, api.ErrCut, 2, true},
		{"a fault of OK", &Fault{api.OK, 5}, api.OK, 5, true},
		{"within", Within(form, "line"), api.ErrForm, 7, true},
		{"within twice", Within(Within(form, "line"), "text"), api.ErrForm, 7, true},
		{"wrapped by others", fmt.Errorf("by %w", Within(form, "line")), api.ErrForm, 7, true},
		{"others within", Within(fmt.Errorf("by %w", form), "line"), api.ErrForm, 7, true},
		{"told, not wrapped", fmt.Errorf("by %v", form), 0, 0, false},
		{"joined", errors.Join(plain, Within(form, "line"), long), api.ErrForm, 7, true},
		{"joined the other way", errors.Join(long, form), api.ErrLong, -3, true},
		{"told when asked", Within(giver{&Fault{api.ErrTree, 9}, true}, "line"), api.ErrTree, 9, true},
		{"told when asked, but not so", Within(giver{&Fault{api.ErrTree, 9}, false}, "line"), 0, 0, false},
		{"told a nil one when asked", Within(giver{nil, true}, "line"), 0, 0, false},
	} {
		if e, at, ok := Of(c.err); e != c.e || at != c.at || ok != c.ok {
			t.Errorf("%s: %d, %d, %v", c.name, e, at, ok)
		}
	}
}

// P8.2: Of tells what At was handed, whatever that is.
func TestOfAt(t *testing.T) {
	for _, e := range errnos() {
		for _, at := range places() {
			for _, err := range []error{At(e, at), Within(At(e, at), "line")} {
				if e2, at2, ok := Of(err); e2 != e || at2 != at || !ok {
					t.Errorf("%d at %d: %d, %d, %v", e, at, e2, at2, ok)
				}
			}
		}
	}
}

// P8.2: an error is the numbers that it is or wraps, and no others.
func TestIs(t *testing.T) {
	form := At(api.ErrForm, 7)
	for _, c := range []struct {
		name string
		err  error
		is   []api.Errno
	}{
		{"nil", nil, nil},
		{"nil fault", noFault(), nil},
		{"nil fault within", Within(noFault(), "line"), nil},
		{"plain", Within(plain, "line"), nil},
		{"a list", Within(list{"x"}, "line"), nil},
		{"a number", api.ErrLong, []api.Errno{api.ErrLong}},
		{"a number within", Within(api.ErrLong, "line"), []api.Errno{api.ErrLong}},
		{"OK", api.OK, nil},
		{"OK within", Within(api.OK, "line"), nil},
		{"a fault of OK", &Fault{api.OK, 5}, nil},
		{"a fault", form, []api.Errno{api.ErrForm}},
		{"a fault whose place is a number too", At(api.ErrForm, int(api.ErrArg)), []api.Errno{api.ErrForm}},
		{"within", Within(Within(form, "line"), "text"), []api.Errno{api.ErrForm}},
		{"others within", Within(fmt.Errorf("by %w", form), "line"), []api.Errno{api.ErrForm}},
		{"told, not wrapped", fmt.Errorf("by %v", form), nil},
		{"joined", errors.Join(plain, Within(form, "line"), api.ErrTree), []api.Errno{api.ErrForm, api.ErrTree}},
		{"says that it is", Within(like{}, "line"), []api.Errno{api.ErrTree}},
	} {
		for _, e := range append(errnos(), api.OK) {
			if is := Is(c.err, e); is != slices.Contains(c.is, e) {
				t.Errorf("%s: Is(%d) is %v", c.name, e, is)
			}
		}
	}
}

// P8.2: of each fault just its own number is so.
func TestIsOfEachFault(t *testing.T) {
	for _, e := range errnos() {
		for _, other := range append(errnos(), api.OK) {
			if Is(Within(At(e, 4), "line"), other) != (e == other) {
				t.Errorf("%d is %d", e, other)
			}
		}
	}
}

// P8.2: the parts that were told, the outermost first.
func TestPath(t *testing.T) {
	form := At(api.ErrForm, 7)
	for _, c := range []struct {
		name string
		err  error
		want string
	}{
		{"nil", nil, ""},
		{"nil fault", noFault(), ""},
		{"a fault", form, ""},
		{"a number", api.ErrLong, ""},
		{"plain", plain, ""},
		{"wrapped by others alone", fmt.Errorf("by %w", form), ""},
		{"one", Within(form, "line"), "line"},
		{"two", Within(Within(form, "line"), "text"), "text/line"},
		{"three", Within(Within(Within(form, "c"), "b"), "a"), "a/b/c"},
		{"the same ones", Within(Within(form, "a"), "a"), "a/a"},
		{"an empty one", Within(form, ""), ""},
		{"empty ones", Within(Within(form, ""), ""), "/"},
		{"an empty one between", Within(Within(Within(form, "c"), ""), "a"), "a//c"},
		{"a / within", Within(Within(form, "c"), "a/b"), "a/b/c"},
		{"no fault", Within(Within(plain, "line"), "text"), "text/line"},
		{"a nil fault", Within(noFault(), "line"), "line"},
		{"others between", Within(fmt.Errorf("by %w", Within(form, "line")), "text"), "text/line"},
		{"others around", fmt.Errorf("by %w", fmt.Errorf("by %w", Within(form, "line"))), "line"},
		{"joined", Within(errors.Join(plain, Within(form, "line")), "text"), "text/line"},
		{"told, not wrapped", fmt.Errorf("by %v", Within(form, "line")), ""},
	} {
		if s := Path(c.err); s != c.want {
			t.Errorf("%s: %q, not %q", c.name, s, c.want)
		}
	}
}

// P8.3: the fault of the least place.
func TestFirst(t *testing.T) {
	for _, c := range []struct {
		l    []Fault
		want Fault
		ok   bool
	}{
		{nil, Fault{}, false},
		{[]Fault{}, Fault{}, false},
		{[]Fault{{}}, Fault{}, false},
		{[]Fault{{At: 1}, {At: -1}, {At: 0}}, Fault{}, false},
		{[]Fault{{api.ErrForm, 0}}, Fault{api.ErrForm, 0}, true},
		{[]Fault{{api.ErrForm, -4}}, Fault{api.ErrForm, -4}, true},
		{[]Fault{{api.ErrForm, math.MaxInt}}, Fault{api.ErrForm, math.MaxInt}, true},
		{[]Fault{{api.ErrForm, 5}, {api.ErrLong, 3}, {api.ErrArg, 3}}, Fault{api.ErrLong, 3}, true},
		{[]Fault{{api.ErrForm, 5}, {api.ErrLong, 3}, {api.ErrArg, -3}}, Fault{api.ErrArg, -3}, true},
		{[]Fault{{}, {api.ErrForm, 5}, {At: 2}, {api.ErrArg, 7}}, Fault{api.ErrForm, 5}, true},
		{[]Fault{{-1, 2}, {1, 2}}, Fault{-1, 2}, true},
		{[]Fault{{1, 0}, {-1, math.MinInt}, {2, math.MinInt}}, Fault{-1, math.MinInt}, true},
	} {
		if f, ok := First(c.l); f != c.want || ok != c.ok {
			t.Errorf("%v: %v, %v", c.l, f, ok)
		}
	}
}

// wantFirst is what the chapter says of First.
func wantFirst(l []Fault) (Fault, bool) {
	with := slices.DeleteFunc(slices.Clone(l), func(f Fault) bool { return f.E == api.OK })
	if len(with) == 0 {
		return Fault{}, false
	}
	slices.SortStableFunc(with, func(a, b Fault) int { return a.At - b.At })
	return with[0], true
}

// P8.3: First of all short lists of faults and such that are none.
func TestFirstOfShortLists(t *testing.T) {
	var one []Fault
	for _, e := range []api.Errno{api.OK, api.ErrArg, api.ErrForm, -1} {
		for at := -1; at <= 1; at++ {
			one = append(one, Fault{e, at})
		}
	}
	last := [][]Fault{nil}
	for range 4 {
		var next [][]Fault
		for _, l := range last {
			for _, f := range one {
				next = append(next, append(slices.Clone(l), f))
			}
		}
		for _, l := range next {
			want, wantOK := wantFirst(l)
			if f, ok := First(l); f != want || ok != wantOK {
				t.Fatalf("%v: %v, %v", l, f, ok)
			}
		}
		last = next
	}
}

// P8.3: the first fault is found at each place of a long list.
func TestFirstAtEachPlace(t *testing.T) {
	l := make([]Fault, 300)
	for i := range l {
		l[i] = Fault{api.Errno(i % 2), 9}
	}
	for i := range l {
		was := l[i]
		l[i] = Fault{api.ErrTree, 8}
		if f, ok := First(l); f != l[i] || !ok {
			t.Fatalf("%d: %v, %v", i, f, ok)
		}
		l[i] = was
	}
}

// P8.4: however often an error is wrapped, number, place and the parts stay.
func TestWrappedOften(t *testing.T) {
	err := At(api.ErrCode, -12)
	for i := range 2000 {
		switch i % 4 {
		case 0, 1:
			err = Within(err, "p")
		case 2:
			err = fmt.Errorf("%w", err)
		case 3:
			err = errors.Join(plain, err)
		}
		if e, at, ok := Of(err); e != api.ErrCode || at != -12 || !ok {
			t.Fatalf("%d: %d, %d, %v", i, e, at, ok)
		}
		if !Is(err, api.ErrCode) || Is(err, api.ErrArg) {
			t.Fatalf("%d: Is", i)
		}
	}
	if want := strings.Repeat("p/", 999) + "p"; Path(err) != want {
		t.Errorf("path of %d bytes", len(Path(err)))
	}
}

// P8.4: so it is of an error that is a part's of a part's a million times, and its text is all of them.
func TestWithinAMillionTimes(t *testing.T) {
	const times = 1 << 20
	err := At(api.ErrForm, 7)
	for range times {
		err = Within(err, "ab")
	}
	if e, at, ok := Of(err); e != api.ErrForm || at != 7 || !ok {
		t.Errorf("%d, %d, %v", e, at, ok)
	}
	if !Is(err, api.ErrForm) || Is(err, api.ErrLong) {
		t.Error("Is")
	}
	if Path(err) != strings.Repeat("ab/", times-1)+"ab" {
		t.Error("Path")
	}
	if err.Error() != strings.Repeat("ab: ", times)+"error 2 at 7" {
		t.Error("Error")
	}
}

// P1: no question panics, or goes on without end, because an error that is handed in does or says what is not so.
func TestErrorsOfOthers(t *testing.T) {
	var none *nilful
	var several *joined
	for _, c := range []struct {
		name string
		err  error
		text string
	}{
		{"a nil one", none, ""},
		{"a nil one of several", several, "joined"},
		{"nil ones joined", &joined{[]error{nil, none}}, "joined"},
		{"one that says that it is all", liar{}, "liar"},
		{"a list", list{"a", "b"}, "a,b"},
		{"an empty list", list(nil), ""},
	} {
		if e, at, ok := Of(c.err); e != api.OK || at != 0 || ok {
			t.Errorf("%s: Of is %d, %d, %v", c.name, e, at, ok)
		}
		if Is(c.err, api.ErrForm) || Is(c.err, api.OK) {
			t.Errorf("%s: Is", c.name)
		}
		if s := Path(c.err); s != "" {
			t.Errorf("%s: Path is %q", c.name, s)
		}
		err := Within(Within(c.err, "line"), "text")
		if e, at, ok := Of(err); e != api.OK || at != 0 || ok || Is(err, api.ErrForm) {
			t.Errorf("%s within: Of is %d, %d, %v", c.name, e, at, ok)
		}
		if s := Path(err); s != "text/line" {
			t.Errorf("%s within: Path is %q", c.name, s)
		}
		if s := err.Error(); s != "text: line: "+c.text {
			t.Errorf("%s within: the text is %q", c.name, s)
		}
	}
}

// P4: the list that First is handed stays as it is, and nothing behind its length is read.
func TestListsAreLeftAlone(t *testing.T) {
	room := []Fault{{api.ErrForm, 5}, {}, {api.ErrLong, 3}, {api.ErrArg, 1}, {api.ErrTree, -9}}
	was := slices.Clone(room)
	f, ok := First(room[:3])
	if f != (Fault{api.ErrLong, 3}) || !ok {
		t.Errorf("%v, %v", f, ok)
	}
	f.At = 100
	if !slices.Equal(room, was) {
		t.Errorf("%v", room)
	}
	if f, ok := First(room[1:2]); f != (Fault{}) || ok {
		t.Errorf("none: %v, %v", f, ok)
	}
}

// P4: asking changes no error.
func TestErrorsAreLeftAlone(t *testing.T) {
	f := &Fault{api.ErrForm, 7}
	err := Within(Within(f, "line"), "text")
	for range 2 {
		if e, at, ok := Of(err); e != api.ErrForm || at != 7 || !ok || !Is(err, api.ErrForm) {
			t.Error("Of, Is")
		}
		if Path(err) != "text/line" || err.Error() != "text: line: error 2 at 7" {
			t.Errorf("%q, %q", Path(err), err)
		}
	}
	if *f != (Fault{api.ErrForm, 7}) {
		t.Errorf("%v", *f)
	}
}
