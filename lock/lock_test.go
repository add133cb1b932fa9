package lock

import (
	"fmt"
	"math"
	"slices"
	"sort"
	"strings"
	"testing"

	"chandlery/api"
	"chandlery/held"
	"chandlery/pack"
	"chandlery/plain"
	"chandlery/sum"
	"chandlery/tree"
	"chandlery/want"
)

// Two texts of files that no sum tells apart in a path; as file `a` alone, both have the sum of no file at all.
const (
	twin  = "aanmgykj"
	other = "aexcifku"
)

// greatest of all sums.
const greatest = 1000000006

// named and nothing more is told of it but a sum.
func named(name string, n int) api.Want {
	return api.Want{Name: name, URL: "http://h/x", Kind: "pack", Sum: n}
}

// lockOf words, as `a1`: a name of one byte and a sum.
func lockOf(t *testing.T, s string) []api.Want {
	t.Helper()
	var out []api.Want
	for _, word := range strings.Fields(s) {
		n, err := sum.Read("s" + word[1:])
		must(t, err)
		out = append(out, named(word[:1], n))
	}
	return out
}

// long is a lock of so many.
func long(count int) []api.Want {
	var out []api.Want
	for i := range count {
		out = append(out, named(fmt.Sprintf("n%02d", i), i))
	}
	return out
}

// varied has each kind, and bounds of each field.
func varied() []api.Want {
	return []api.Want{
		{Name: "-", URL: "http://h/x", Kind: "plain"},
		{Name: "-.", URL: "ftp://h/a/b/c/d/e/f", Kind: "pack", Strip: api.MaxParts, Sum: greatest},
		{Name: "0", URL: "file://abcdefghij-9/abcdefghij-9", Kind: "press", Strip: 1, Sum: 1},
		{Name: "_", URL: "http://h/x", Kind: "plain", Sum: greatest},
		{Name: "a", URL: "http://h/x", Kind: "pack", Strip: 3, Sum: 10},
		{Name: "a-", URL: "http://h/x", Kind: "press", Sum: 7},
		{Name: "a.b", URL: "http://h/x", Kind: "press", Strip: api.MaxParts, Sum: 7},
		{Name: "aa", URL: "http://h/x", Kind: "pack", Sum: 7},
		{Name: "abcdefghij-9", URL: "http://h/x", Kind: "pack", Sum: 7},
	}
}

func must(t *testing.T, err error) {
	t.Helper()
	if err != nil {
		t.Fatal(err)
	}
}

func faultAt(at int, err error) error { return &api.Fault{At: at, Err: err} }

// told is an error in one text: so a bare error differs from one with a place, and from another error.
func told(err error) string {
	if err == nil {
		return ""
	}
	_, at := plain.Code(err)
	return fmt.Sprintf("%T %v at %d", err, err, at)
}

// same tells whether an error is what is to be told.
func same(err, want error) bool { return told(err) == told(want) }

// wrongWant is no want, and what is told of it.
type wrongWant struct {
	w   api.Want
	err error
}

// wrongWants have one wrong field each, or all; the name stays where it is not what is wrong.
func wrongWants(name string) []wrongWant {
	of := func(url, kind string, strip, n int) api.Want {
		return api.Want{Name: name, URL: url, Kind: kind, Strip: strip, Sum: n}
	}
	return []wrongWant{
		{api.Want{}, api.ErrName},
		{named("", 1), api.ErrName},
		{named("A", 1), api.ErrName},
		{named("..", 1), api.ErrName},
		{named("a/b", 1), api.ErrName},
		{named("abcdefghij-90", 1), api.ErrName},
		{of("", "pack", 0, 1), api.ErrText},
		{of("http:/h/x", "pack", 0, 1), api.ErrText},
		{of("zip://h/x", "pack", 0, 1), api.ErrKind},
		{of("http://H/x", "pack", 0, 1), api.ErrName},
		{of("http://h/a//x", "pack", 0, 1), api.ErrName},
		{of("http://h/a/b/c/d/e/f/g", "pack", 0, 1), api.ErrFull},
		{of("http://h/x", "", 0, 1), api.ErrKind},
		{of("http://h/x", "Pack", 0, 1), api.ErrKind},
		{of("http://h/x", "pack", -1, 1), api.ErrBound},
		{of("http://h/x", "pack", api.MaxParts+1, 1), api.ErrBound},
		{of("http://h/x", "plain", 1, 1), api.ErrShape},
		{of("http://h/x", "pack", 0, -1), api.ErrBound},
		{of("http://h/x", "pack", 0, greatest+1), api.ErrBound},
		{of("http://h/x", "pack", math.MinInt, math.MaxInt), api.ErrBound},
		{of("x", "x", -1, -1), api.ErrText},
	}
}

// wrongLock is no lock, and what is told of it.
type wrongLock struct {
	l   []api.Want
	err error
}

// wrongLocks of all errors at all places, alone and several at once.
func wrongLocks(t *testing.T) []wrongLock {
	out := []wrongLock{
		{long(api.MaxWants + 1), api.ErrFull},
		{long(3 * api.MaxWants), api.ErrFull},
		{make([]api.Want, api.MaxWants+1), api.ErrFull},
		{make([]api.Want, api.MaxWants), faultAt(0, api.ErrName)},
		{lockOf(t, "a1 a1"), faultAt(1, api.ErrOrder)},
		{lockOf(t, "a1 a2"), faultAt(1, api.ErrOrder)},
		{lockOf(t, "b1 a1"), faultAt(1, api.ErrOrder)},
		{lockOf(t, "a1 b1 c1 b1 a1"), faultAt(3, api.ErrOrder)},
		{lockOf(t, "c1 a1 b1"), faultAt(1, api.ErrOrder)},
		{lockOf(t, "a1 c1 b1 d1"), faultAt(2, api.ErrOrder)},
		{[]api.Want{named("aa", 1), named("a", 1)}, faultAt(1, api.ErrOrder)},
		{[]api.Want{named("a", 1), named("_", 1)}, faultAt(1, api.ErrOrder)},
		{[]api.Want{named("0", 1), named("-", 1)}, faultAt(1, api.ErrOrder)},
		{[]api.Want{named("b", 1), named("a", 1), {}}, faultAt(1, api.ErrOrder)},
		{[]api.Want{named("a", 1), {}, named("a", 1)}, faultAt(1, api.ErrName)},
		{[]api.Want{named("a", 1), named("A", 1), named("b", 1)}, faultAt(1, api.ErrName)},
	}
	for at := range api.MaxWants {
		for _, w := range wrongWants(fmt.Sprintf("n%02d", at)) {
			l := long(api.MaxWants)
			l[at] = w.w
			out = append(out, wrongLock{l, faultAt(at, w.err)})
		}
		// What is wrong with a want is told ahead of where it stands.
		for _, w := range wrongWants("0") {
			l := long(api.MaxWants)
			l[at] = w.w
			out = append(out, wrongLock{l, faultAt(at, w.err)})
		}
		// The first place is told, whatever is wrong there.
		l := long(api.MaxWants)
		for i := at; i < len(l); i++ {
			l[i] = []wrongWant{{named("n!", 1), nil}, {named("0", -1), nil}}[i%2].w
		}
		out = append(out, wrongLock{l, faultAt(at, []error{api.ErrName, api.ErrBound}[at%2])})
		if at > 0 {
			l := long(api.MaxWants)
			l[at] = l[at-1]
			out = append(out, wrongLock{l, faultAt(at, api.ErrOrder)})
		}
	}
	return out
}

// rights are locks.
func rights(t *testing.T) [][]api.Want {
	out := [][]api.Want{nil, {}, varied(), long(api.MaxWants - 1), long(api.MaxWants)}
	for _, s := range []string{"a1", "a1 b1", "a1 b2 c3", "a0 z0"} {
		out = append(out, lockOf(t, s))
	}
	for i := range varied() {
		out = append(out, varied()[i:], varied()[:i], varied()[i:i+1])
	}
	return out
}

// linesOf a lock, word by word.
func linesOf(l []api.Want) string {
	s := ""
	for _, w := range l {
		s += fmt.Sprintf("%s %s %s %d s%d\n", w.Name, w.URL, w.Kind, w.Strip, w.Sum)
	}
	return s
}

// brief tells the beginning of anything: some are long.
func brief(x any) string { return fmt.Sprintf("%.80s", fmt.Sprint(x)) }

// P120: Check

func TestCheckTakesLocks(t *testing.T) {
	for _, l := range rights(t) {
		if err := Check(l); err != nil {
			t.Errorf("%s: %s", brief(l), told(err))
		}
	}
}

func TestCheckTellsTheFirst(t *testing.T) {
	for _, c := range wrongLocks(t) {
		if err := Check(c.l); !same(err, c.err) {
			t.Errorf("%s: %s, want %s", brief(c.l), told(err), told(c.err))
		}
	}
}

// TestNamesRiseByBytes goes through all pairs of some names.
func TestNamesRiseByBytes(t *testing.T) {
	names := []string{"-", "-a", ".a", "...", "0", "00", "1", "10", "9", "_", "__", "a", "a-", "a.", "a0", "a_", "aa", "ab", "b", "zzzzzzzzzzzz"}
	for _, a := range names {
		for _, b := range names {
			var want error
			if a >= b {
				want = faultAt(1, api.ErrOrder)
			}
			if err := Check([]api.Want{named(a, 5), named(b, 4)}); !same(err, want) {
				t.Errorf("%s, %s: %s", a, b, told(err))
			}
		}
	}
}

// TestEachCallChecks holds that all calls tell what is wrong with a lock, and nothing beside it.
func TestEachCallChecks(t *testing.T) {
	right := long(2)
	for _, c := range wrongLocks(t) {
		text, err := Text(c.l)
		if text != "" || !same(err, c.err) {
			t.Errorf("Text %s: %q, %s, want %s", brief(c.l), text, told(err), told(c.err))
		}
		for _, w := range []api.Want{{}, named("a", 1), c.l[0]} {
			l, err := Set(c.l, w)
			if len(l) > 0 || !same(err, c.err) {
				t.Errorf("Set %s: %s, %s, want %s", brief(c.l), brief(l), told(err), told(c.err))
			}
		}
		for _, name := range []string{"", "none", c.l[0].Name} {
			l, err := Drop(c.l, name)
			if len(l) > 0 || !same(err, c.err) {
				t.Errorf("Drop %s: %s, %s, want %s", brief(c.l), brief(l), told(err), told(c.err))
			}
		}
		for _, b := range [][]api.Want{nil, right, c.l, make([]api.Want, 1)} {
			lines, err := Diff(c.l, b)
			if len(lines) > 0 || !same(err, c.err) {
				t.Errorf("Diff %s: %q, %s, want %s", brief(c.l), lines, told(err), told(c.err))
			}
		}
		for _, a := range [][]api.Want{nil, right} {
			lines, err := Diff(a, c.l)
			if len(lines) > 0 || !same(err, c.err) {
				t.Errorf("Diff behind, %s: %q, %s, want %s", brief(c.l), lines, told(err), told(c.err))
			}
		}
		h := held.New(3)
		s, err := Bundle(h, c.l)
		if s != "" || !same(err, c.err) {
			t.Errorf("Bundle %s: %q, %s, want %s", brief(c.l), s, told(err), told(c.err))
		}
		for _, h := range []*held.Held{h, held.New(0)} {
			for _, s := range []string{"", "x", strings.Repeat("x", api.MaxSource+1)} {
				if err := Load(h, c.l, s); !same(err, c.err) || len(h.Sums()) > 0 {
					t.Errorf("Load %s: %s, want %s", brief(c.l), told(err), told(c.err))
				}
			}
		}
	}
}

// P120: as text

// checkText holds how a lock is written, and that it is read again.
func checkText(t *testing.T, l []api.Want, want string) {
	t.Helper()
	if s, err := Text(l); s != want || err != nil {
		t.Errorf("Text %s: %q, %v, want %q", brief(l), s, err, want)
	}
	if out, err := Read(want); !slices.Equal(out, l) || err != nil {
		t.Errorf("Read %.60q: %s, %v, want %s", want, brief(out), err, brief(l))
	}
}

func TestText(t *testing.T) {
	checkText(t, nil, "")
	checkText(t, lockOf(t, "a98"), "a http://h/x pack 0 s98\n")
	checkText(t, []api.Want{
		{Name: "a", URL: "ftp://h/d/x", Kind: "plain", Sum: 0},
		{Name: "b-1.0", URL: "file://h.i/x", Kind: "press", Strip: 6, Sum: greatest},
	}, "a ftp://h/d/x plain 0 s0\nb-1.0 file://h.i/x press 6 s1000000006\n")
	for _, l := range rights(t) {
		checkText(t, l, linesOf(l))
	}
}

// checkNotRead holds what is told of a text that is no lock.
func checkNotRead(t *testing.T, s string, want error) {
	t.Helper()
	if l, err := Read(s); len(l) > 0 || !same(err, want) {
		t.Errorf("Read %.80q: %s, %s, want %s", s, brief(l), told(err), told(want))
	}
}

// wrongLines are told at their place: with their ends.
func wrongLines() map[string]error {
	return map[string]error{
		"\n":                                               api.ErrText,
		" \n":                                              api.ErrText,
		"\r\n":                                             api.ErrText,
		"\x00\n":                                           api.ErrText,
		"x\n":                                              api.ErrText,
		"n http://h/x pack 0\n":                            api.ErrText,
		"n http://h/x pack 0 s1 \n":                        api.ErrText,
		" n http://h/x pack 0 s1\n":                        api.ErrText,
		"n  http://h/x pack 0 s1\n":                        api.ErrText,
		"n http://h/x pack 0 s1 x\n":                       api.ErrText,
		"n http://h/x pack 0 s1\r\n":                       api.ErrText,
		"n http://h/x pack 0 s01\n":                        api.ErrText,
		"n http://h/x pack 0 s\n":                          api.ErrText,
		"n http://h/x pack 0 98\n":                         api.ErrText,
		"n http://h/x pack 00 s1\n":                        api.ErrText,
		"n http://h/x pack -1 s1\n":                        api.ErrText,
		"n http://h/x pack x s1\n":                         api.ErrText,
		"n http://h/x pack 0 s-1\n":                        api.ErrText,
		"n http://h/x pack 0 s1000000007\n":                api.ErrText,
		"N http://h/x pack 0 s1\n":                         api.ErrName,
		"../n http://h/x pack 0 s1\n":                      api.ErrName,
		"n http:/h/x pack 0 s1\n":                          api.ErrText,
		"n zip://h/x pack 0 s1\n":                          api.ErrKind,
		"n http://h/ pack 0 s1\n":                          api.ErrName,
		"n http://h/a/b/c/d/e/f/g pack 0 s1\n":             api.ErrFull,
		"n http://h/x packed 0 s1\n":                       api.ErrKind,
		"n http://h/x pack 7 s1\n":                         api.ErrBound,
		"n http://h/x plain 1 s1\n":                        api.ErrShape,
		"N zip://h/x packed 9 s1\n":                        api.ErrName,
		"n\thttp://h/x\tpack\t0\ts1\n":                     api.ErrText,
		"n http://h/x pack 0 s1; m http://h/x pack 0 s1\n": api.ErrText,
	}
}

func TestReadTellsTheFirstLine(t *testing.T) {
	first := "a http://h/x pack 0 s1\n"
	for line, err := range wrongLines() {
		checkNotRead(t, line, faultAt(0, err))
		checkNotRead(t, line+first, faultAt(0, err))
		checkNotRead(t, line+line, faultAt(0, err))
		checkNotRead(t, first+line, faultAt(1, err))
		checkNotRead(t, first+line+"z http://h/x pack 0 s1", faultAt(1, err))
		// Ahead of what is wrong with the lock, even behind it.
		checkNotRead(t, first+first+line, faultAt(2, err))
		checkNotRead(t, linesOf(long(api.MaxWants))+line, faultAt(api.MaxWants, err))
		checkNotRead(t, linesOf(long(3*api.MaxWants))+line+first, faultAt(3*api.MaxWants, err))
		// A line that has no end is none, whatever stands in it.
		if line != "\n" {
			checkNotRead(t, line[:len(line)-1], faultAt(0, api.ErrText))
			checkNotRead(t, first+line[:len(line)-1], faultAt(1, api.ErrText))
		}
	}
}

func TestEachLineHasAnEnd(t *testing.T) {
	for _, l := range rights(t) {
		if len(l) == 0 {
			continue
		}
		s := linesOf(l)
		checkNotRead(t, s[:len(s)-1], faultAt(len(l)-1, api.ErrText))
		checkNotRead(t, s+"\n", faultAt(len(l), api.ErrText))
		checkNotRead(t, "\n"+s, faultAt(0, api.ErrText))
		checkNotRead(t, s+" ", faultAt(len(l), api.ErrText))
		checkNotRead(t, strings.ReplaceAll(s, "\n", "\r"), faultAt(0, api.ErrText))
		checkNotRead(t, strings.ReplaceAll(s, "\n", "\r\n"), faultAt(0, api.ErrText))
	}
}

func TestReadChecks(t *testing.T) {
	for _, l := range [][]api.Want{lockOf(t, "a1 a1"), lockOf(t, "a1 a2"), lockOf(t, "b1 a1"), lockOf(t, "a1 c1 b1 a1"), long(api.MaxWants + 1), long(5 * api.MaxWants)} {
		checkNotRead(t, linesOf(l), Check(l))
		if Check(l) == nil {
			t.Errorf("%s is a lock", brief(l))
		}
	}
	checkNotRead(t, strings.Repeat("a http://h/x pack 0 s1\n", api.MaxWants), faultAt(1, api.ErrOrder))
	checkNotRead(t, strings.Repeat("a http://h/x pack 0 s1\n", api.MaxWants+1), api.ErrFull)
	checkNotRead(t, strings.Repeat("a http://h/x pack 0 s1\n", 100000), api.ErrFull)
}

// expected works out what is read, line by line, from the front.
func expected(s string) ([]api.Want, error) {
	lines := strings.Split(s, "\n")
	var l []api.Want
	for i, line := range lines[:len(lines)-1] {
		w, err := want.Read(line)
		if err != nil {
			return nil, faultAt(i, err)
		}
		l = append(l, w)
	}
	if lines[len(lines)-1] != "" {
		return nil, faultAt(len(lines)-1, api.ErrText)
	}
	if len(l) > api.MaxWants {
		return nil, api.ErrFull
	}
	for i := 1; i < len(l); i++ {
		if strings.Compare(l[i-1].Name, l[i].Name) != -1 {
			return nil, faultAt(i, api.ErrOrder)
		}
	}
	return l, nil
}

// checkRead holds a text against what was worked out, and that what is read is written as it was.
func checkRead(t *testing.T, s string) bool {
	t.Helper()
	want, err := expected(s)
	if err != nil {
		checkNotRead(t, s, err)
		return false
	}
	checkText(t, want, s)
	return true
}

func TestTextsWithOneByteAnotherOne(t *testing.T) {
	s := "a http://h/x pack 0 s1\nc ftp://i/y/z press 3 s20\ne file://j/x plain 0 s0\n"
	read := 0
	for at := range len(s) {
		checkRead(t, s[:at])
		checkRead(t, s[at:])
		checkRead(t, s[:at]+s[at+1:])
		for b := range 256 {
			for _, s := range []string{s[:at] + string([]byte{byte(b)}) + s[at+1:], s[:at] + string([]byte{byte(b)}) + s[at:]} {
				if checkRead(t, s) {
					read++
				}
			}
		}
	}
	if read < 500 {
		t.Errorf("only %d were read", read)
	}
}

func TestAllSmallTexts(t *testing.T) {
	parts := []string{"a http://h/x pack 0 s1\n", "b http://h/x pack 0 s1\n", "B http://h/x pack 0 s1\n", "c http://h/x pack 9 s1\n", "\n", "a http://h/x pack 0 s1"}
	var each func(s string, more int)
	each = func(s string, more int) {
		checkRead(t, s)
		for _, p := range parts {
			if more > 0 {
				each(s+p, more-1)
			}
		}
	}
	each("", 5)
}

// P120: Find

func TestFind(t *testing.T) {
	for _, l := range rights(t) {
		for i, w := range l {
			if at := Find(l, w.Name); at != i {
				t.Errorf("%s in %s: %d, want %d", w.Name, brief(l), at, i)
			}
		}
		for _, name := range []string{"", "n", "N00", "n0", "n000", "n20", " a", "a ", "a\n", "zz", "-a", "http://h/x", "pack"} {
			if at := Find(l, name); at != -1 {
				t.Errorf("%q in %s: %d", name, brief(l), at)
			}
		}
	}
}

func TestFindTakesAnyList(t *testing.T) {
	l := []api.Want{named("c", 1), {}, named("a", 1), named("c", 2), named("A/..", 1), {}, named("b", 1)}
	for name, want := range map[string]int{"c": 0, "": 1, "a": 2, "A/..": 4, "b": 6, "d": -1} {
		if at := Find(l, name); at != want {
			t.Errorf("%q: %d, want %d", name, at, want)
		}
	}
	l = long(1000)
	for i, w := range l {
		if at := Find(l, w.Name); at != i {
			t.Errorf("%s: %d, want %d", w.Name, at, i)
		}
	}
	if at := Find(l[:5:5], "n05"); at != -1 {
		t.Errorf("behind the list: %d", at)
	}
	if at := Find(l[:5], "n05"); at != -1 {
		t.Errorf("behind the list: %d", at)
	}
}

// P120: Set

// checkSet holds what a lock becomes, and that it is only read.
func checkSet(t *testing.T, l []api.Want, w api.Want, want []api.Want) {
	t.Helper()
	was := slices.Clone(l)
	if out, err := Set(l, w); !slices.Equal(out, want) || err != nil {
		t.Errorf("Set %v in %s: %s, %v, want %s", w, brief(was), brief(out), err, brief(want))
	}
	if !slices.Equal(l, was) {
		t.Errorf("Set %v in %s: it is %s now", w, brief(was), brief(l))
	}
}

func TestSet(t *testing.T) {
	for _, c := range []struct{ l, w, want string }{
		{"", "a1", "a1"},
		{"b1", "a2", "a2 b1"},
		{"b1", "b2", "b2"},
		{"b1", "b1", "b1"},
		{"b1", "c2", "b1 c2"},
		{"b1 d2", "a3", "a3 b1 d2"},
		{"b1 d2", "b3", "b3 d2"},
		{"b1 d2", "c3", "b1 c3 d2"},
		{"b1 d2", "d3", "b1 d3"},
		{"b1 d2", "e3", "b1 d2 e3"},
	} {
		checkSet(t, lockOf(t, c.l), lockOf(t, c.w)[0], lockOf(t, c.want))
	}
	// All of it is in the place of what has its name.
	w := api.Want{Name: "b", URL: "ftp://i/y", Kind: "press", Strip: 2, Sum: 9}
	checkSet(t, lockOf(t, "a1 b1 c1"), w, []api.Want{named("a", 1), w, named("c", 1)})
}

func TestSetAtEachPlace(t *testing.T) {
	all := append(varied(), long(api.MaxWants-len(varied()))...)
	must(t, Check(all))
	if len(all) != api.MaxWants {
		t.Fatal(len(all))
	}
	for i, w := range all {
		rest := slices.Delete(slices.Clone(all), i, i+1)
		checkSet(t, rest, w, all)
		checkSet(t, all, w, all)
		another := slices.Clone(all)
		another[i].URL, another[i].Sum = "ftp://i/another", 77
		checkSet(t, all, another[i], another)
	}
}

// checkNotSet holds what is told of a want that is not set.
func checkNotSet(t *testing.T, l []api.Want, w api.Want, want error) {
	t.Helper()
	if out, err := Set(l, w); len(out) > 0 || !same(err, want) {
		t.Errorf("Set %v in %s: %s, %s, want %s", w, brief(l), brief(out), told(err), told(want))
	}
}

func TestWhatIsNoWantIsNotSet(t *testing.T) {
	for _, l := range rights(t) {
		for _, name := range []string{"n05", "a", "zz"} {
			for _, w := range wrongWants(name) {
				checkNotSet(t, l, w.w, w.err)
			}
		}
	}
}

func TestThereAreNotTooManyWants(t *testing.T) {
	full := long(api.MaxWants)
	for _, name := range []string{"a", "n", "n0", "n00-", "n10.a", "n19a", "n20", "z"} {
		checkNotSet(t, full, named(name, 1), api.ErrFull)
		if l, err := Set(full[1:], named(name, 1)); len(l) != api.MaxWants || err != nil {
			t.Errorf("%s: %d, %v", name, len(l), err)
		}
	}
}

// P120: Drop

func TestDrop(t *testing.T) {
	for _, l := range rights(t) {
		for i, w := range l {
			was := slices.Clone(l)
			want := slices.Delete(slices.Clone(l), i, i+1)
			if out, err := Drop(l, w.Name); !slices.Equal(out, want) || err != nil {
				t.Errorf("Drop %s of %s: %s, %v", w.Name, brief(l), brief(out), err)
			}
			if !slices.Equal(l, was) {
				t.Errorf("Drop %s of %s: it is %s now", w.Name, brief(was), brief(l))
			}
			if _, err := Drop(want, w.Name); !same(err, api.ErrNone) {
				t.Errorf("Drop %s of %s: %s", w.Name, brief(want), told(err))
			}
		}
		for _, name := range []string{"", "n", "N00", "n0", "n000", "n20", "a ", "../a", "zz", "0a", strings.Repeat("x", 100)} {
			if out, err := Drop(l, name); len(out) > 0 || !same(err, api.ErrNone) {
				t.Errorf("Drop %q of %s: %s, %s", name, brief(l), brief(out), told(err))
			}
		}
	}
}

// P120: Diff

// checkDiff holds how two locks differ, again and again, as a map is gone through in another order each time.
func checkDiff(t *testing.T, a, b []api.Want, want []string) {
	t.Helper()
	for range 10 {
		if lines, err := Diff(a, b); !slices.Equal(lines, want) || err != nil {
			t.Errorf("%s and %s: %q, %v, want %q", brief(a), brief(b), lines, err, want)
		}
	}
}

func TestDiff(t *testing.T) {
	for _, c := range []struct{ a, b, want string }{
		{"", "", ""},
		{"a1", "a1", ""},
		{"a1 b2", "a1 b2", ""},
		{"a1", "", "- a"},
		{"", "a1", "+ a"},
		{"a1", "a2", "* a"},
		{"a1", "b1", "- a,+ b"},
		{"b1", "a1", "+ a,- b"},
		{"a1 b2 d3", "a1 b5 c3", "* b,+ c,- d"},
		// By names, not by what is ahead of them.
		{"a1 b1 c1", "b2 c1 d1", "- a,* b,+ d"},
		{"b2 c1 d1", "a1 b1 c1", "+ a,* b,- d"},
		{"c1 d1 e1 f1", "a1 b1 e2 f2", "+ a,+ b,- c,- d,* e,* f"},
		{"a1 c1 e1 g1", "a2 b1 d1 e1 f1 g2", "* a,+ b,- c,+ d,+ f,* g"},
	} {
		var want []string
		if c.want != "" {
			want = strings.Split(c.want, ",")
		}
		checkDiff(t, lockOf(t, c.a), lockOf(t, c.b), want)
	}
}

func TestEachFieldMakesADifference(t *testing.T) {
	was := api.Want{Name: "a", URL: "http://h/x", Kind: "pack", Sum: 1}
	l := []api.Want{was, was, was, was, was}
	l[1].URL, l[2].Kind, l[3].Strip, l[4].Sum = "http://h/y", "press", 1, 2
	for i, a := range l {
		for k, b := range l {
			var want []string
			if i != k {
				want = []string{"* a"}
			}
			checkDiff(t, []api.Want{a}, []api.Want{b}, want)
		}
	}
}

func TestDiffOfTheLongest(t *testing.T) {
	a := long(api.MaxWants)
	var b, c []api.Want
	var apart, alike, minus []string
	for i, w := range a {
		minus = append(minus, "- "+w.Name)
		alike = append(alike, "* "+w.Name)
		apart = append(apart, "- "+w.Name, "+ "+w.Name+"-")
		c = append(c, named(w.Name, i+1))
		b = append(b, named(w.Name+"-", i))
	}
	checkDiff(t, a, a, nil)
	checkDiff(t, a, nil, minus)
	checkDiff(t, a, c, alike)
	checkDiff(t, a, b, apart)
	sort.Slice(apart, func(i, k int) bool { return apart[i][2:] < apart[k][2:] })
	checkDiff(t, a, b, apart)
	// Names of which one begins with another.
	checkDiff(t, varied(), nil, []string{"- -", "- -.", "- 0", "- _", "- a", "- a-", "- a.b", "- aa", "- abcdefghij-9"})
}

func TestTheFirstOfTwoIsCheckedFirst(t *testing.T) {
	a, b := lockOf(t, "b1 a1"), make([]api.Want, 1)
	for _, c := range []struct {
		a, b []api.Want
		err  error
	}{{a, b, faultAt(1, api.ErrOrder)}, {b, a, faultAt(0, api.ErrName)}, {long(21), b, api.ErrFull}, {b, long(21), faultAt(0, api.ErrName)}} {
		if lines, err := Diff(c.a, c.b); len(lines) > 0 || !same(err, c.err) {
			t.Errorf("%q, %s, want %s", lines, told(err), told(c.err))
		}
	}
}

// smallLocks are all locks of three names and two sums.
func smallLocks(t *testing.T) [][]api.Want {
	t.Helper()
	var out [][]api.Want
	for i := range 27 {
		s := ""
		for k, name := range []string{"a", "b", "c"} {
			if n := i / []int{1, 3, 9}[k] % 3; n > 0 {
				s += fmt.Sprintf(" %s%d", name, n)
			}
		}
		out = append(out, lockOf(t, s))
	}
	return out
}

// sumsOf a lock, by their names: the second working-out of locks.
func sumsOf(l []api.Want) map[string]int {
	out := map[string]int{}
	for _, w := range l {
		out[w.Name] = w.Sum
	}
	return out
}

// lockBy sums, by names.
func lockBy(m map[string]int) []api.Want {
	var out []api.Want
	for _, name := range []string{"a", "b", "c"} {
		if n := m[name]; n > 0 {
			out = append(out, named(name, n))
		}
	}
	return out
}

func TestAllSmallLocks(t *testing.T) {
	locks := smallLocks(t)
	for _, a := range locks {
		for _, name := range []string{"a", "b", "c"} {
			for n := range 3 {
				m := sumsOf(a)
				if n > 0 {
					m[name] = n
					checkSet(t, a, named(name, n), lockBy(m))
				} else if m[name] > 0 {
					m[name] = 0
					if l, err := Drop(a, name); !slices.Equal(l, lockBy(m)) || err != nil {
						t.Errorf("Drop %s of %v: %v, %v", name, a, l, err)
					}
				}
			}
		}
		for _, b := range locks {
			var want []string
			in, as := sumsOf(a), sumsOf(b)
			for _, name := range []string{"a", "b", "c"} {
				switch {
				case in[name] == as[name]:
				case in[name] == 0:
					want = append(want, "+ "+name)
				case as[name] == 0:
					want = append(want, "- "+name)
				default:
					want = append(want, "* "+name)
				}
			}
			checkDiff(t, a, b, want)
		}
	}
}

// TestADiffLeadsFromOneToTheOther: what stands alone or otherwise, set or dropped, makes the second of the first.
func TestADiffLeadsFromOneToTheOther(t *testing.T) {
	for _, a := range smallLocks(t) {
		for _, b := range smallLocks(t) {
			lines, err := Diff(a, b)
			must(t, err)
			l := a
			for _, line := range lines {
				if line[0] == '-' {
					l, err = Drop(l, line[2:])
				} else {
					l, err = Set(l, b[Find(b, line[2:])])
				}
				must(t, err)
			}
			if !slices.Equal(l, b) {
				t.Errorf("%v by %q: %v, want %v", a, lines, l, b)
			}
		}
	}
}

// P121: Bundle

// one file.
func one(p, text string) []api.File { return []api.File{{Path: p, Text: text}} }

// sumOf a tree, by the chapter of packs.
func sumOf(t *testing.T, l []api.File) int {
	t.Helper()
	n, err := pack.Sum(l)
	if err != nil {
		t.Fatalf("%s is no tree: %v", brief(l), err)
	}
	return n
}

// holding trees, one behind the other.
func holding(t *testing.T, most int, trees ...[]api.File) *held.Held {
	t.Helper()
	h := held.New(most)
	for _, l := range trees {
		_, err := h.Put(l)
		must(t, err)
	}
	return h
}

// wanting trees, by the names a, b, c and so on.
func wanting(t *testing.T, trees ...[]api.File) []api.Want {
	t.Helper()
	var out []api.Want
	for i, l := range trees {
		out = append(out, named(string(rune('a'+i)), sumOf(t, l)))
	}
	return out
}

// bundled is what all of it is bundled as.
func bundled(t *testing.T, h *held.Held, l []api.Want) string {
	t.Helper()
	s, err := Bundle(h, l)
	if err != nil {
		t.Fatalf("Bundle %s: %v", brief(l), err)
	}
	return s
}

// checkBundle holds what is bundled, and that it changes nothing.
func checkBundle(t *testing.T, h *held.Held, l []api.Want, want string) {
	t.Helper()
	was := h.Copy()
	for range 2 {
		if s, err := Bundle(h, l); s != want || err != nil {
			t.Errorf("Bundle %s: %.200q, %v, want %.200q", brief(l), s, err, want)
		}
	}
	if !held.Same(h, was) {
		t.Errorf("Bundle %s: holds %v, held %v", brief(l), h.Sums(), was.Sums())
	}
}

// checkNotBundled holds what is told, and that it changes nothing.
func checkNotBundled(t *testing.T, h *held.Held, l []api.Want, want error) {
	t.Helper()
	if s, err := Bundle(h, l); s != "" || !same(err, want) {
		t.Errorf("Bundle %s: %.80q, %s, want %s", brief(l), s, told(err), told(want))
	}
}

// Trees of some files.
func first() []api.File {
	return []api.File{{Path: "x", Text: "1"}, {Path: "y/z", Run: true, Text: "2\n"}}
}
func second() []api.File { return one("x", "\xff\x00") }

func TestBundle(t *testing.T) {
	h := holding(t, 5, first(), second(), nil)
	checkBundle(t, h, nil, "")
	checkBundle(t, held.New(0), nil, "")
	checkBundle(t, h, wanting(t, first()), "a/x f 1\n1\na/y/z x 2\n2\n\n")
	checkBundle(t, h, wanting(t, second()), "a/x f 2\n\xff\x00\n")
	checkBundle(t, h, wanting(t, nil), "")
	checkBundle(t, h, wanting(t, nil, second(), nil, first()), "b/x f 2\n\xff\x00\nd/x f 1\n1\nd/y/z x 2\n2\n\n")
	// One tree by several names.
	checkBundle(t, h, wanting(t, second(), first(), second()), "a/x f 2\n\xff\x00\nb/x f 1\n1\nb/y/z x 2\n2\n\nc/x f 2\n\xff\x00\n")
	// Link, kind and strip are nothing of it: what is held is bundled.
	n := sumOf(t, second())
	checkBundle(t, h, []api.Want{
		{Name: "a", URL: "ftp://none/none", Kind: "plain", Sum: n},
		{Name: "abcdefghij-9", URL: "http://h/x", Kind: "press", Strip: 6, Sum: n},
	}, "a/x f 2\n\xff\x00\nabcdefghij-9/x f 2\n\xff\x00\n")
}

// TestABundleIsATree: names may rise otherwise than what stands below them does.
func TestABundleIsATree(t *testing.T) {
	n := sumOf(t, second())
	h := holding(t, 1, second())
	checkBundle(t, h, []api.Want{named("a", n), named("a-", n), named("a.b", n), named("a0", n), named("aa", n)},
		"a-/x f 2\n\xff\x00\na.b/x f 2\n\xff\x00\na/x f 2\n\xff\x00\na0/x f 2\n\xff\x00\naa/x f 2\n\xff\x00\n")
}

func TestWhatIsNotHeldIsNotBundled(t *testing.T) {
	h := holding(t, 5, first(), second(), nil)
	l := wanting(t, first(), second(), nil, second(), first())
	bundled(t, h, l)
	for i := range l {
		wrong := slices.Clone(l)
		for k := i; k < len(l); k++ {
			for _, n := range []int{77, greatest, 1} {
				wrong[k].Sum = n
				checkNotBundled(t, h, wrong, faultAt(i, api.ErrNone))
			}
		}
	}
	checkNotBundled(t, held.New(5), l, faultAt(0, api.ErrNone))
	checkNotBundled(t, held.New(0), l[:1], faultAt(0, api.ErrNone))
	checkNotBundled(t, &held.Held{}, l[:1], faultAt(0, api.ErrNone))
	checkNotBundled(t, held.New(5), wanting(t, nil), faultAt(0, api.ErrNone))
	// What was held, and went.
	must(t, h.Drop(sumOf(t, second())))
	checkNotBundled(t, h, l, faultAt(1, api.ErrNone))
}

// deep is a tree of one file, of so many parts.
func deep(parts int) []api.File { return one(strings.Repeat("d/", parts-1)+"d", "") }

// wide is a tree of so many files.
func wide(files int) []api.File {
	var out []api.File
	for i := range files {
		out = append(out, api.File{Path: fmt.Sprintf("%02d", i), Text: fmt.Sprint(files)})
	}
	return out
}

// heavy is a tree of texts of so many bytes in all.
func heavy(bytes int) []api.File {
	var out []api.File
	for i := 0; bytes > 0; i++ {
		n := min(bytes, api.MaxText)
		out = append(out, api.File{Path: fmt.Sprint(i), Text: strings.Repeat("x", n)})
		bytes -= n
	}
	return out
}

func TestBundlesAtTheBounds(t *testing.T) {
	for _, trees := range [][][]api.File{
		{deep(api.MaxParts - 1)},
		{deep(1), deep(api.MaxParts - 1), deep(2)},
		{wide(api.MaxFiles)},
		{wide(1), wide(api.MaxFiles - 1)},
		{wide(10), wide(11), wide(9)},
		{heavy(api.MaxAll)},
		{heavy(api.MaxAll - 1), heavy(1)},
		{heavy(1), nil, heavy(api.MaxAll - 1)},
	} {
		h := holding(t, api.MaxHeld, trees...)
		l := wanting(t, trees...)
		var want []api.File
		for i, m := range trees {
			for _, f := range m {
				f.Path = l[i].Name + "/" + f.Path
				want = append(want, f)
			}
		}
		s, err := pack.Make(want)
		must(t, err)
		checkBundle(t, h, l, s)
		checkLoad(t, held.New(api.MaxHeld), l, s, trees...)
	}
}

func TestWhatIsTooMuchIsNotBundled(t *testing.T) {
	for _, c := range []struct {
		trees [][]api.File
		err   error
	}{
		{[][]api.File{deep(api.MaxParts)}, api.ErrFull},
		{[][]api.File{deep(2), nil, deep(api.MaxParts)}, api.ErrFull},
		{[][]api.File{deep(api.MaxParts), deep(1)}, api.ErrFull},
		{[][]api.File{wide(1), wide(api.MaxFiles)}, api.ErrFull},
		{[][]api.File{wide(10), wide(10), wide(11)}, api.ErrFull},
		{[][]api.File{heavy(api.MaxAll), heavy(1)}, api.ErrBound},
		{[][]api.File{heavy(8000), nil, heavy(4001)}, api.ErrBound},
		// Graft by graft: the first that is wrong is told.
		{[][]api.File{heavy(8000), heavy(8000), deep(api.MaxParts)}, api.ErrBound},
		{[][]api.File{heavy(8000), deep(api.MaxParts), heavy(8000)}, api.ErrFull},
		{[][]api.File{heavy(8000), heavy(8000), wide(api.MaxFiles)}, api.ErrBound},
		{[][]api.File{heavy(8000), wide(api.MaxFiles), heavy(8000)}, api.ErrFull},
	} {
		h := holding(t, api.MaxHeld, c.trees...)
		l := wanting(t, c.trees...)
		checkNotBundled(t, h, l, c.err)
		// What is not held is told first, even behind what is too much.
		checkNotBundled(t, h, append(l, named("z", 77)), faultAt(len(l), api.ErrNone))
	}
}

func TestOfTwinsTheOneThatIsHeldIsBundled(t *testing.T) {
	l := wanting(t, one("b", twin))
	checkBundle(t, holding(t, 2, one("b", twin), one("b", other)), l, "a/b f 8\n"+twin+"\n")
	checkBundle(t, holding(t, 2, one("b", other), one("b", twin)), l, "a/b f 8\n"+other+"\n")
	checkBundle(t, holding(t, 2, one("a", other), nil), wanting(t, nil), "a/a f 8\n"+other+"\n")
}

// P121: Load

// checkHolds holds that these trees are held, as they came.
func checkHolds(t *testing.T, h *held.Held, trees ...[]api.File) {
	t.Helper()
	var want []int
	for _, l := range trees {
		want = append(want, sumOf(t, l))
	}
	if !slices.Equal(h.Sums(), want) {
		t.Errorf("holds %v, want %v", h.Sums(), want)
	}
	for i, n := range want {
		if l, err := h.Get(n); !tree.Same(l, trees[i]) || err != nil {
			t.Errorf("Get %d: %s, %v, want %s", n, brief(l), err, brief(trees[i]))
		}
	}
}

// checkLoad holds that a bundle is loaded, and what is held then.
func checkLoad(t *testing.T, h *held.Held, l []api.Want, s string, trees ...[]api.File) {
	t.Helper()
	if err := Load(h, l, s); err != nil {
		t.Errorf("Load %s: %s", brief(l), told(err))
	}
	checkHolds(t, h, trees...)
}

// checkNotLoaded holds what is told, and that nothing changes.
func checkNotLoaded(t *testing.T, h *held.Held, l []api.Want, s string, want error) {
	t.Helper()
	was := h.Sums()
	if err := Load(h, l, s); !same(err, want) {
		t.Errorf("Load %s by %.80q: %s, want %s", brief(l), s, told(err), told(want))
	}
	if !slices.Equal(h.Sums(), was) {
		t.Errorf("Load %s by %.80q: holds %v, held %v", brief(l), s, h.Sums(), was)
	}
}

func TestNoHeldIsNoShape(t *testing.T) {
	for _, l := range [][]api.Want{nil, long(2), make([]api.Want, 30)} {
		checkNotBundled(t, nil, l, api.ErrShape)
		for _, s := range []string{"", "x", strings.Repeat("x", api.MaxSource+1)} {
			if err := Load(nil, l, s); !same(err, api.ErrShape) {
				t.Error(told(err))
			}
		}
	}
}

func TestLoad(t *testing.T) {
	checkLoad(t, held.New(5), nil, "")
	checkLoad(t, held.New(5), wanting(t, first()), "a/x f 1\n1\na/y/z x 2\n2\n\n", first())
	checkLoad(t, held.New(5), wanting(t, nil), "", nil)
	s := "b/x f 2\n\xff\x00\nd/x f 1\n1\nd/y/z x 2\n2\n\n"
	checkLoad(t, held.New(5), wanting(t, nil, second(), nil, first()), s, nil, second(), first())
	// Once, and in the order of the lock: not of the sums, nor of the pack.
	n := sumOf(t, second())
	checkLoad(t, held.New(5), []api.Want{named("a", sumOf(t, first())), named("a-", n), named("b", n)},
		"a-/x f 2\n\xff\x00\na/x f 1\n1\na/y/z x 2\n2\n\nb/x f 2\n\xff\x00\n", first(), second())
	// Link, kind and strip are nothing of it.
	checkLoad(t, held.New(5), []api.Want{{Name: "b", URL: "ftp://none/none", Kind: "plain", Sum: n}}, "b/x f 2\n\xff\x00\n", second())
}

func TestLoadBehindWhatIsHeld(t *testing.T) {
	s := "a/x f 1\n1\na/y/z x 2\n2\n\nb/x f 2\n\xff\x00\n"
	l := wanting(t, first(), second())
	y, z := one("y", ""), one("z", "")
	checkLoad(t, holding(t, 5, y, z), l, s, y, z, first(), second())
	// What is held stays in its place.
	checkLoad(t, holding(t, 5, second(), y), l, s, second(), y, first())
	checkLoad(t, holding(t, 5, y, first(), second()), l, s, y, first(), second())
	checkLoad(t, holding(t, 3, y, second(), first()), l, s, y, second(), first())
	// Where they are too many the first ones go.
	checkLoad(t, holding(t, 3, y, z), l, s, z, first(), second())
	checkLoad(t, holding(t, 2, y, z), l, s, first(), second())
	checkLoad(t, holding(t, 1, y), l, s, second())
	checkLoad(t, held.New(1), l, s, second())
	// One by one: what was held first may go, and come again.
	checkLoad(t, holding(t, 2, second(), y), l, s, first(), second())
	checkLoad(t, holding(t, 2, first(), y), l, s, y, second())
	// It may hold as many as ahead of it.
	h := held.New(3)
	checkLoad(t, h, l, s, first(), second())
	for _, m := range [][]api.File{y, z} {
		_, err := h.Put(m)
		must(t, err)
	}
	checkHolds(t, h, second(), y, z)
	// And again.
	checkLoad(t, h, l, s, z, first(), second())
	checkLoad(t, h, l, s, z, first(), second())
}

func TestWhatIsBelowNoNameIsNotLoaded(t *testing.T) {
	l := wanting(t, first(), second())
	s := "a/x f 1\n1\na/y/z x 2\n2\n\naa/x f 1\n9\nb/x f 2\n\xff\x00\nc/x f 1\n9\nx f 1\n9\ny/z f 1\n9\n"
	checkLoad(t, held.New(5), l, s, first(), second())
	checkLoad(t, held.New(5), l[:1], s, first())
	checkLoad(t, held.New(5), l[1:], s, second())
	checkLoad(t, held.New(5), nil, s)
	// A file of a name has nothing below it.
	checkLoad(t, held.New(5), wanting(t, nil), "a f 1\n9\n", nil)
	checkNotLoaded(t, held.New(5), l[:1], "a f 1\n9\n", faultAt(0, api.ErrSum))
}

func TestAnotherSumIsNotLoaded(t *testing.T) {
	trees := [][]api.File{first(), second(), nil, first()}
	l := wanting(t, trees...)
	h := holding(t, 9, trees...)
	s := bundled(t, h, l)
	for i := range l {
		wrong := slices.Clone(l)
		for k := i; k < len(l); k++ {
			wrong[k].Sum = (wrong[k].Sum + 1) % (greatest + 1)
			for _, h := range []*held.Held{h, held.New(9), held.New(1), holding(t, 2, one("y", ""), one("z", ""))} {
				checkNotLoaded(t, h, wrong, s, faultAt(i, api.ErrSum))
			}
		}
	}
	h = holding(t, 2, one("y", ""), one("z", ""))
	for s, at := range map[string]int{
		"":                                      0,
		strings.Replace(s, "a/x f", "a/x x", 1): 0,
		strings.Replace(s, "a/x f 1\n1\n", "", 1):            0,
		strings.Replace(s, "a/y/z x 2\n2\n\n", "", 1):        0,
		strings.Replace(s, "a/y/z", "a/y/y", 1):              0,
		strings.Replace(s, "b/x", "b0/x", 1):                 1,
		strings.Replace(s, "b/x f 2\n\xff", "b/x f 2\n1", 1): 1,
		strings.Replace(s, "d/x", "c/x f 0\n\nd/x", 1):       2,
		strings.Replace(s, "d/x f 1\n1", "d/x f 2\n11", 1):   3,
		s + "d/z f 0\n\n": 3,
	} {
		checkNotLoaded(t, h, l, s, faultAt(at, api.ErrSum))
	}
	// What is held already must be right in the bundle, too.
	checkNotLoaded(t, holding(t, 5, trees...), l, "", faultAt(0, api.ErrSum))
	checkHolds(t, h, one("y", ""), one("z", ""))
}

func TestWhatIsNoPackIsNotLoaded(t *testing.T) {
	l := wanting(t, first(), second())
	s := "a/x f 1\n1\na/y/z x 2\n2\n\nb/x f 2\n\xff\x00\n"
	h := holding(t, 2, one("y", ""), one("z", ""))
	for text, err := range map[string]error{
		"x":                         faultAt(0, api.ErrText),
		s[:len(s)-1]:                faultAt(2, api.ErrText),
		s + "\n":                    faultAt(3, api.ErrText),
		s + "c f 00\n\n":            faultAt(3, api.ErrText),
		s + "../c f 0\n\n":          faultAt(3, api.ErrName),
		s + "b/y/a/b/c/d/e f 0\n\n": faultAt(3, api.ErrFull),
		s + "b/x/y f 0\n\n":         faultAt(3, api.ErrClash),
		s + "a/z f 0\n\n":           faultAt(3, api.ErrOrder),
		s + "c f 4001\n" + strings.Repeat("x", 4001) + "\n": faultAt(3, api.ErrBound),
		strings.Repeat("x", api.MaxSource+1):                api.ErrBound,
		strings.Repeat("x", api.MaxSource):                  faultAt(0, api.ErrText),
		packedAnyhow(heavy(api.MaxAll + 1)):                 api.ErrBound,
		packedAnyhow(wide(api.MaxFiles + 1)):                api.ErrFull,
	} {
		// Ahead of other sums, and of no room, and where nothing is wanted.
		for _, l := range [][]api.Want{l, l[:1], l[1:], nil, wanting(t, nil), long(5)} {
			for _, h := range []*held.Held{h, held.New(0), held.New(5)} {
				checkNotLoaded(t, h, l, text, err)
			}
		}
	}
	checkHolds(t, h, one("y", ""), one("z", ""))
}

// packedAnyhow is a pack of files that need be no tree.
func packedAnyhow(l []api.File) string {
	s := ""
	for _, f := range l {
		s += fmt.Sprintf("%s f %d\n%s\n", f.Path, len(f.Text), f.Text)
	}
	return s
}

func TestThereIsRoomForNone(t *testing.T) {
	l := wanting(t, first(), second())
	s := "a/x f 1\n1\na/y/z x 2\n2\n\nb/x f 2\n\xff\x00\n"
	for _, h := range []*held.Held{held.New(0), held.New(-1), held.New(math.MinInt), {}} {
		checkNotLoaded(t, h, l, s, faultAt(0, api.ErrFull))
		checkNotLoaded(t, h, l[1:], s, faultAt(0, api.ErrFull))
		checkNotLoaded(t, h, wanting(t, nil), "", faultAt(0, api.ErrFull))
		// Want by want: another sum of the first is told ahead of it, one of the second not.
		checkNotLoaded(t, h, []api.Want{named("a", 77), l[1]}, s, faultAt(0, api.ErrSum))
		checkNotLoaded(t, h, []api.Want{l[0], named("b", 77)}, s, faultAt(0, api.ErrFull))
		// Nothing needs no room.
		checkLoad(t, h, nil, s)
		checkLoad(t, h, nil, "")
	}
}

func TestOfTwinsEitherIsLoaded(t *testing.T) {
	l := wanting(t, one("b", twin))
	for _, text := range []string{twin, other} {
		checkLoad(t, held.New(2), l, "a/b f 8\n"+text+"\n", one("b", text))
		// The one that is held stays.
		checkLoad(t, holding(t, 2, one("b", twin)), l, "a/b f 8\n"+text+"\n", one("b", twin))
		checkLoad(t, held.New(2), wanting(t, nil), "a/a f 8\n"+text+"\n", one("a", text))
	}
}

// P4

// scribble on all of a list's memory.
func scribble[T any](l []T, with T) {
	l = l[:cap(l)]
	for i := range l {
		l[i] = with
	}
}

func TestWhatIsHandedOverIsOnlyRead(t *testing.T) {
	mine := append(varied(), named("zz", 5), named("zzz", 6))
	was := slices.Clone(mine)
	for count := range varied() {
		l := mine[:count]
		behind := named("zz", 7)
		Check(l)
		Text(l)
		Find(l, "zz")
		Set(l, behind)
		Set(l, varied()[0])
		Drop(l, "-")
		Diff(l, mine[:2])
		Diff(mine[:2], l)
		Bundle(held.New(3), l)
		Load(held.New(3), l, "")
		if !slices.Equal(mine, was) {
			t.Fatalf("%d: %v, was %v", count, mine, was)
		}
	}
}

func TestWhatIsAnsweredIsNewMemory(t *testing.T) {
	scribbled := named("mine", 3)
	for _, l := range rights(t) {
		was := slices.Clone(l)
		for range 2 {
			for _, w := range was {
				if len(l) < api.MaxWants {
					out, err := Set(l, named("zz", 1))
					must(t, err)
					scribble(out, scribbled)
				}
				out, err := Set(l, w)
				if !slices.Equal(out, was) || err != nil {
					t.Fatalf("%v, %v, want %v", out, err, was)
				}
				scribble(out, scribbled)
				out, err = Drop(l, w.Name)
				must(t, err)
				scribble(out, scribbled)
				lines, err := Diff(l, nil)
				if len(lines) != len(was) || lines[0] != "- "+was[0].Name || err != nil {
					t.Fatal(lines, err)
				}
				scribble(lines, "mine")
				out, err = Read(linesOf(was))
				if !slices.Equal(out, was) || err != nil {
					t.Fatalf("%v, %v, want %v", out, err, was)
				}
				scribble(out, scribbled)
			}
		}
		if !slices.Equal(l, was) {
			t.Errorf("%v, was %v", l, was)
		}
	}
}

func TestWhatIsLoadedIsApart(t *testing.T) {
	h := holding(t, 9, first(), second())
	l := wanting(t, first(), second())
	s := bundled(t, h, l)
	o := holding(t, 9, one("y", ""))
	before := o.Copy()
	checkLoad(t, o, l, s, one("y", ""), first(), second())
	checkHolds(t, before, one("y", ""))
	p := holding(t, 9)
	checkLoad(t, p, l, s, first(), second())
	must(t, o.Drop(sumOf(t, first())))
	must(t, h.Drop(sumOf(t, second())))
	got, err := p.Get(sumOf(t, first()))
	must(t, err)
	scribble(got, api.File{Path: "mine"})
	checkHolds(t, p, first(), second())
	checkHolds(t, o, one("y", ""), second())
	checkHolds(t, h, first())
}

// P122

// mixed trees, small ones, by a short rule.
func mixed(i int) []api.File {
	var out []api.File
	for k, p := range []string{"a", "b-", "b/c", "b/d/e", "c/c/c/c/c"} {
		if i>>k&1 == 1 {
			out = append(out, api.File{Path: p, Run: i%3 == 0, Text: strings.Repeat("\n", k) + fmt.Sprint(i%7)})
		}
	}
	return out
}

// mixedLock of what is held, by names of which some begin with others.
func mixedLock(h *held.Held, i int) []api.Want {
	names := []string{"-", "0", "a", "a-b", "a.b", "a0", "ab", "b"}
	var out []api.Want
	sums := h.Sums()
	for k, name := range names {
		if i>>k&1 == 1 {
			out = append(out, named(name, sums[(i+k*k)%len(sums)]))
		}
	}
	return out
}

// checkHasAll holds that all that is wanted is held there as it was here.
func checkHasAll(t *testing.T, there, here *held.Held, l []api.Want) {
	t.Helper()
	for _, w := range l {
		came, err := there.Get(w.Sum)
		was, none := here.Get(w.Sum)
		if err != nil || none != nil || !tree.Same(came, was) {
			t.Fatalf("%v: %s, %v, want %s, %v", w, brief(came), err, brief(was), none)
		}
		if sumOf(t, came) != w.Sum {
			t.Fatalf("%v: has %d", w, sumOf(t, came))
		}
	}
}

func TestWhatIsBundledAndLoadedIsHeld(t *testing.T) {
	for round := range 30 {
		h := held.New(12)
		for k := range 12 {
			_, err := h.Put(mixed(round*7 + k*k*5))
			must(t, err)
		}
		// All of what was bundled from it comes to be held there, one behind the other.
		there := held.New(api.MaxHeld)
		for i := range 256 {
			l := mixedLock(h, i)
			s := bundled(t, h, l)
			// As it may be written and read on the way.
			text, err := Text(l)
			must(t, err)
			l, err = Read(text)
			must(t, err)
			must(t, Load(there, l, s))
			checkHasAll(t, there, h, l)
			empty := held.New(len(l))
			must(t, Load(empty, l, s))
			checkHasAll(t, empty, h, l)
			if again := bundled(t, empty, l); again != s {
				t.Fatalf("bundled as %q, and again as %q", s, again)
			}
		}
	}
}

// TestABundleThatIsChangedHoldsNothingWrong: cut, or with any byte another one, it is not loaded, or what is wanted is held as it was.
func TestABundleThatIsChangedHoldsNothingWrong(t *testing.T) {
	h := holding(t, 9, first(), second(), nil)
	l := wanting(t, first(), nil, second())
	s := bundled(t, h, l)
	check := func(s string) {
		there := held.New(9)
		if err := Load(there, l, s); err != nil {
			checkHolds(t, there)
			return
		}
		checkHasAll(t, there, h, l)
	}
	for at := range len(s) {
		if err := Load(held.New(9), l, s[:at]); err == nil {
			t.Errorf("cut at %d it is loaded", at)
		}
		for b := range 256 {
			check(s[:at] + string([]byte{byte(b)}) + s[at+1:])
			check(s[:at] + string([]byte{byte(b)}) + s[at:])
		}
	}
}

// P1

func FuzzNothingPanics(f *testing.F) {
	text := linesOf(varied())
	for _, s := range []string{"", "\n", "x", text, text[:40], linesOf(long(21)), "a/x f 1\n1\n", "a f 0\n\n"} {
		f.Add(s, "a", "http://h/x", "pack", 0, 1, "a/x f 1\n1\n")
		f.Add(text, s, s, s, -1, math.MaxInt, s)
	}
	f.Fuzz(func(t *testing.T, s, name, url, kind string, strip, n int, bundle string) {
		checkRead(t, s)
		w := api.Want{Name: name, URL: url, Kind: kind, Strip: strip, Sum: n}
		l, err := Read(s)
		for _, l := range [][]api.Want{l, {w}, append(l, w)} {
			Find(l, name)
			out, err := Set(l, w)
			if err == nil && (out[Find(out, name)] != w || Check(out) != nil) {
				t.Errorf("%v in %v: %v", w, l, out)
			}
			Drop(l, name)
			Diff(l, out)
			h := held.New(3)
			if Load(h, l, bundle) == nil && len(l) <= 3 {
				if _, err := Bundle(h, l); err != nil {
					t.Errorf("%v by %q: %v", l, bundle, err)
				}
			}
		}
		if err != nil && len(l) > 0 {
			t.Errorf("%q: %v with %v", s, l, err)
		}
	})
}
