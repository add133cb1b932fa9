package path

import (
	"slices"
	"strings"
	"testing"

	"chandlery/api"
)

// The errors are held against each other by ==, not errors.Is: no call of this package tells a place, so each error is bare.

const (
	longest = "abcdefghij-9" // of MaxName bytes
	tooLong = longest + "z"
	fullest = "a/b/c/d/e/f" // of MaxParts parts
	tooMany = fullest + "/g"
)

func TestEdgesAreWhereTheyAreMeant(t *testing.T) {
	if len(longest) != api.MaxName || strings.Count(fullest, "/")+1 != api.MaxParts {
		t.Fatal("the texts of these tests do not lie at the bounds")
	}
}

// P10

func checkBoth(t *testing.T, s string, want error) {
	t.Helper()
	parts, err := Parts(s)
	if bad := Check(s); bad != want || err != want {
		t.Errorf("%q: Check %v, Parts %v, want %v", s, bad, err, want)
	}
	if want != nil && len(parts) != 0 {
		t.Errorf("%q: parts %q with an error", s, parts)
	}
	if want == nil && strings.Join(parts, "/") != s {
		t.Errorf("%q: parts %q", s, parts)
	}
}

func TestCheckTakesPaths(t *testing.T) {
	for _, s := range []string{"a", "z", "0", "9", "_", "-", "...", ".a", "a.", "..a", "a..", "a/b", "src/main.go", "_/-/...", longest, longest + "/" + longest, fullest} {
		checkBoth(t, s, nil)
	}
	checkBoth(t, strings.Join(slices.Repeat([]string{longest}, api.MaxParts), "/"), nil)
}

func TestCheckTellsPartsThatAreNone(t *testing.T) {
	for _, s := range []string{"", ".", "..", "/", "//", "/a", "a/", "a//b", "a/.", "./a", "a/..", "../a", "a/./b", "a/../b", "A", "aB", "a b", " a", "a\n", "a\x00", "é", "aé", "\xff", `a\b`, "a:b", "a+b", tooLong, "a/" + tooLong} {
		checkBoth(t, s, api.ErrName)
	}
}

func TestCheckOfEachByte(t *testing.T) {
	const may = "abcdefghijklmnopqrstuvwxyz0123456789._-"
	for b := range 256 {
		s := "a" + string([]byte{byte(b)}) + "a"
		var want error
		if strings.IndexByte(may, byte(b)) < 0 && b != '/' {
			want = api.ErrName
		}
		checkBoth(t, s, want)
	}
}

func TestCheckTellsTooMany(t *testing.T) {
	checkBoth(t, tooMany, api.ErrFull)
	checkBoth(t, strings.Repeat("a/", 5000)+"a", api.ErrFull)
}

func TestCheckTellsNamesAheadOfTooMany(t *testing.T) {
	for _, s := range []string{tooMany + "/G", tooMany + "/", "A/" + fullest, fullest + "/..", strings.Repeat("a/", 5000) + "."} {
		checkBoth(t, s, api.ErrName)
	}
}

func TestIsPart(t *testing.T) {
	for _, s := range []string{"a", "z", "0", "9", "_", "-", "...", ".a", "a.", "a..b", longest} {
		if !IsPart(s) {
			t.Errorf("%q is none", s)
		}
	}
	for _, s := range []string{"", ".", "..", "/", "a/", "/a", "a/b", fullest, tooMany, "A", "a b", "a\n", "a:b", "é", "\xff", tooLong} {
		if IsPart(s) {
			t.Errorf("%q is one", s)
		}
	}
}

func TestIsPartOfEachByte(t *testing.T) {
	for b := range 256 {
		// What is a path, and is not cut, is one part.
		s := string([]byte{byte(b)})
		if want := Check(s) == nil; IsPart(s) != want || IsPart("a"+s) != (Check("a"+s) == nil) {
			t.Errorf("%q: %v, want %v", s, IsPart(s), want)
		}
	}
}

func TestPartsAreInOrder(t *testing.T) {
	parts, err := Parts("c/a/b/a")
	if err != nil || !slices.Equal(parts, []string{"c", "a", "b", "a"}) {
		t.Error(parts, err)
	}
}

func TestPartsAreNewMemory(t *testing.T) {
	const s = "a/b/c"
	first, _ := Parts(s)
	for i := range first {
		first[i] = "changed"
	}
	if second, err := Parts(s); err != nil || !slices.Equal(second, []string{"a", "b", "c"}) {
		t.Error(second, err)
	}
}

// P11

type answer struct {
	text string
	err  error
}

func TestClean(t *testing.T) {
	for s, want := range map[string]answer{
		"":                      {"", nil},
		".":                     {"", nil},
		"./":                    {"", nil},
		"./.":                   {"", nil},
		"a":                     {"a", nil},
		"a/":                    {"a", nil},
		"a//":                   {"a", nil},
		"./a":                   {"a", nil},
		".//a":                  {"a", nil},
		"a//b":                  {"a/b", nil},
		"a/./b":                 {"a/b", nil},
		"a/./b//../c":           {"a/c", nil},
		"a/..":                  {"", nil},
		"a/../":                 {"", nil},
		"a/../b":                {"b", nil},
		"a/b/..":                {"a", nil},
		"a/b/../..":             {"", nil},
		"a/b/../../c":           {"c", nil},
		"a/../b/../c":           {"c", nil},
		"a//../b":               {"b", nil},
		"a/./../b":              {"b", nil},
		"...":                   {"...", nil},
		".../..":                {"", nil},
		"..a/a..":               {"..a/a..", nil},
		longest:                 {longest, nil},
		fullest:                 {fullest, nil},
		fullest + "/.":          {fullest, nil},
		fullest + "//":          {fullest, nil},
		tooMany + "/..":         {fullest, nil},
		tooMany + "/../x/../.":  {fullest, nil},
		tooMany + "/h/../../..": {"a/b/c/d/e", nil},
	} {
		if text, err := Clean(s); text != want.text || err != want.err {
			t.Errorf("%q: %q, %v, want %q, %v", s, text, err, want.text, want.err)
		}
	}
}

func TestCleanTellsErrors(t *testing.T) {
	for s, want := range map[string]error{
		"/":                         api.ErrShape,
		"//":                        api.ErrShape,
		"/a":                        api.ErrShape,
		"/..":                       api.ErrShape,
		"/A":                        api.ErrShape,
		"/" + tooMany:               api.ErrShape,
		"..":                        api.ErrOut,
		"../":                       api.ErrOut,
		"../a":                      api.ErrOut,
		"./..":                      api.ErrOut,
		"a/../..":                   api.ErrOut,
		"a/../../b":                 api.ErrOut,
		"a/../../A":                 api.ErrOut,
		"a/b/../../../a/b":          api.ErrOut,
		"../" + tooMany:             api.ErrOut,
		"A":                         api.ErrName,
		"a/B":                       api.ErrName,
		"a/B/..":                    api.ErrName,
		"A/../..":                   api.ErrName,
		"a b":                       api.ErrName,
		"é":                         api.ErrName,
		"a\x00":                     api.ErrName,
		tooLong:                     api.ErrName,
		tooLong + "/..":             api.ErrName,
		tooMany + "/G":              api.ErrName,
		tooMany:                     api.ErrFull,
		tooMany + "/./":             api.ErrFull,
		tooMany + "/h/..":           api.ErrFull,
		strings.Repeat("a/", 5000):  api.ErrFull,
		strings.Repeat("../", 5000): api.ErrOut,
		strings.Repeat("a/", 7) + strings.Repeat("../", 8): api.ErrOut,
	} {
		if text, err := Clean(s); text != "" || err != want {
			t.Errorf("%q: %q, %v, want %v", s, text, err, want)
		}
	}
}

func TestJoin(t *testing.T) {
	for _, c := range []struct {
		dir, s string
		want   answer
	}{
		{"", "", answer{"", nil}},
		{"", "a/../b", answer{"b", nil}},
		{"", "/a", answer{"", api.ErrShape}},
		{"", "..", answer{"", api.ErrOut}},
		{"x", "", answer{"x", nil}},
		{"x", ".", answer{"x", nil}},
		{"x", "a", answer{"x/a", nil}},
		{"x/", "a", answer{"x/a", nil}},
		{"x", "/a", answer{"x/a", nil}},
		{"x", "..", answer{"", nil}},
		{"x", "../a", answer{"a", nil}},
		{"x/..", "a", answer{"a", nil}},
		{".", "a", answer{"a", nil}},
		{"x", "../..", answer{"", api.ErrOut}},
		{"..", "x", answer{"", api.ErrOut}},
		{"/", "a", answer{"", api.ErrShape}},
		{"/x", "a", answer{"", api.ErrShape}},
		{"X", "a", answer{"", api.ErrName}},
		{"x", "A", answer{"", api.ErrName}},
		{"a/b/c", "d/e/f", answer{fullest, nil}},
		{"a/b/c", "d/e/f/g", answer{"", api.ErrFull}},
		{tooMany, "..", answer{fullest, nil}},
	} {
		if text, err := Join(c.dir, c.s); text != c.want.text || err != c.want.err {
			t.Errorf("%q, %q: %q, %v, want %q, %v", c.dir, c.s, text, err, c.want.text, c.want.err)
		}
	}
}

func TestIn(t *testing.T) {
	for _, c := range []struct {
		s, dir string
		want   bool
	}{
		{"a/b", "a", true},
		{"a/b/c", "a", true},
		{"a/b/c", "a/b", true},
		{fullest, "a/b/c/d/e", true},
		{"a", "", true},
		{fullest, "", true},
		{"a", "a", false},
		{"a/b", "a/b", false},
		{"a", "a/b", false},
		{"ab/c", "a", false},
		{"ab", "a", false},
		{"b/a/c", "a", false},
		{"a/b", "b", false},
		{"a/bc", "a/b", false},
	} {
		if In(c.s, c.dir) != c.want {
			t.Errorf("%q in %q: not %v", c.s, c.dir, c.want)
		}
	}
}

func TestInOfWhatIsNoPath(t *testing.T) {
	for _, c := range []struct{ s, dir string }{
		{"", ""}, {"A", ""}, {".", ""}, {"..", ""}, {"/", ""}, {"a/", ""}, {"/a", ""}, {tooMany, ""}, {tooLong, ""},
		{"a/", "a"}, {"a//b", "a"}, {"a/..", "a"}, {"a/../b", "a"}, {"a/B", "a"}, {tooMany, "a"}, {"a/" + tooLong, "a"},
		{"A/b", "A"}, {"../a", ".."}, {"./a", "."}, {"a/b", "a/"}, {"a//b", "a/"}, {"/a", "/"}, {"//a", "/"}, {tooMany, fullest}, {tooMany + "/h", tooMany},
	} {
		if In(c.s, c.dir) {
			t.Errorf("%q in %q", c.s, c.dir)
		}
	}
}

func TestStrip(t *testing.T) {
	const biggest = int(^uint(0) >> 1)
	for _, c := range []struct {
		s    string
		n    int
		want answer
	}{
		{"a", 0, answer{"a", nil}},
		{"a/b/c", 0, answer{"a/b/c", nil}},
		{"a/b/c", 1, answer{"b/c", nil}},
		{"a/b/c", 2, answer{"c", nil}},
		{"a/b/c", 3, answer{"", api.ErrShape}},
		{"a/b/c", 4, answer{"", api.ErrShape}},
		{"a/b/c", biggest, answer{"", api.ErrShape}},
		{"a", 1, answer{"", api.ErrShape}},
		{fullest, 5, answer{"f", nil}},
		{fullest, 6, answer{"", api.ErrShape}},
		{"a/b/c", -1, answer{"", api.ErrBound}},
		{"a/b/c", -biggest - 1, answer{"", api.ErrBound}},
		{"", 0, answer{"", api.ErrName}},
		{"A", -1, answer{"", api.ErrName}},
		{"a/..", 9, answer{"", api.ErrName}},
		{tooMany, -1, answer{"", api.ErrFull}},
		{tooMany, 1, answer{"", api.ErrFull}},
	} {
		if text, err := Strip(c.s, c.n); text != c.want.text || err != c.want.err {
			t.Errorf("%q, %d: %q, %v, want %q, %v", c.s, c.n, text, err, c.want.text, c.want.err)
		}
	}
}

// P12

// eachText goes through all texts of up to most pieces, with slashes between.
func eachText(most int, yield func(string)) {
	pieces := []string{"", ".", "..", "...", "a", "b", "A", longest, tooLong}
	var grow func(s string, left int)
	grow = func(s string, left int) {
		yield(s)
		if left == 0 {
			return
		}
		for _, piece := range pieces {
			grow(s+"/"+piece, left-1)
		}
	}
	for _, piece := range pieces {
		grow(piece, most-1)
	}
}

func checkAlways(t *testing.T, s string) {
	t.Helper()
	clean, err := Clean(s)
	if err != nil && clean != "" {
		t.Errorf("%q: %q with %v", s, clean, err)
	}
	if err != nil {
		return
	}
	if clean != "" && Check(clean) != nil {
		t.Errorf("%q: %q is no path", s, clean)
	}
	if strings.HasPrefix(clean, "/") || slices.Contains(strings.Split(clean, "/"), "..") {
		t.Errorf("%q: %q leads out", s, clean)
	}
	if again, err := Clean(clean); again != clean || err != nil {
		t.Errorf("%q: %q, cleaned again %q, %v", s, clean, again, err)
	}
}

func TestCleanStaysCleanAndInside(t *testing.T) {
	eachText(5, func(s string) { checkAlways(t, s) })
}

func TestPathsAreClean(t *testing.T) {
	eachText(4, func(s string) {
		if clean, err := Clean(s); Check(s) == nil && (clean != s || err != nil) {
			t.Errorf("%q: %q, %v", s, clean, err)
		}
	})
}

// walkedOut follows a text from the front, as one does who opens directories, and tells if it ever stands outside.
func walkedOut(s string) bool {
	depth := 0
	for _, piece := range strings.Split(s, "/") {
		switch piece {
		case "", ".":
		case "..":
			depth--
		default:
			depth++
		}
		if depth < 0 {
			return true
		}
	}
	return false
}

func TestWhatLeadsOutIsNeverTaken(t *testing.T) {
	eachText(5, func(s string) {
		if _, err := Clean(s); err == nil && (strings.HasPrefix(s, "/") || walkedOut(s)) {
			t.Errorf("%q is taken", s)
		}
	})
}

func TestWhatIsJoinedAndStaysBelowIsIn(t *testing.T) {
	const dir = "x/y"
	eachText(3, func(s string) {
		joined, err := Join(dir, s)
		if err != nil || walkedOut(s) {
			return
		}
		if joined != dir && !In(joined, dir) {
			t.Errorf("%q: %q is not in %q", s, joined, dir)
		}
	})
}

func FuzzNothingPanicsAndCleanStays(f *testing.F) {
	for _, s := range []string{"", "/", "a/./b//../c", "a/../..", tooMany, tooLong, "\xff/é", strings.Repeat("../", 40)} {
		f.Add(s, "x", 1)
	}
	f.Fuzz(func(t *testing.T, s, dir string, n int) {
		checkAlways(t, s)
		In(s, dir)
		if parts, err := Parts(s); err != Check(s) || err == nil && strings.Join(parts, "/") != s {
			t.Errorf("%q: %q, %v", s, parts, err)
		}
		if joined, err := Join(dir, s); err == nil && joined != "" && Check(joined) != nil {
			t.Errorf("%q, %q: %q", dir, s, joined)
		}
		if rest, err := Strip(s, n); err == nil && (Check(rest) != nil || !strings.HasSuffix(s, rest)) {
			t.Errorf("%q, %d: %q", s, n, rest)
		}
	})
}
