package tree

import (
	"fmt"
	"slices"
	"strings"
	"testing"

	"chandlery/api"
	"chandlery/path"
	"chandlery/plain"
)

const (
	fullest = "a/b/c/d/e/f" // of MaxParts parts
	biggest = int(^uint(0) >> 1)
)

// files of words: a path, `!` if it may be run, a colon, a text.
func files(words ...string) []api.File {
	var out []api.File
	for _, word := range words {
		p, text, _ := strings.Cut(word, ":")
		p, run := strings.CutSuffix(p, "!")
		out = append(out, api.File{Path: p, Run: run, Text: text})
	}
	return out
}

// many files with rising paths, and a text each.
func many(n int, text string) []api.File {
	var out []api.File
	for i := range n {
		out = append(out, api.File{Path: fmt.Sprintf("f%03d", i), Text: text})
	}
	return out
}

func long(n int) string { return strings.Repeat("x", n) }

// told is what a call answered, in one text: so a bare error differs from one with a place, and from another error.
func told(l []api.File, err error) string {
	s := ""
	for _, f := range l {
		s += f.Path
		if f.Run {
			s += "!"
		}
		s += ":" + f.Text + " "
	}
	if err != nil {
		_, at := plain.Code(err)
		s += fmt.Sprintf("%T %v at %d", err, err, at)
	}
	return s
}

func bare(err error) string { return told(nil, err) }

func faultAt(at int, err error) string { return told(nil, &api.Fault{At: at, Err: err}) }

func same(t *testing.T, what any, got, want string) {
	t.Helper()
	if got != want {
		t.Errorf("%v: %.200s, want %.200s", what, got, want)
	}
}

// P20

func TestCheckTakesTrees(t *testing.T) {
	for i, l := range [][]api.File{
		nil,
		{},
		files("a:"),
		files("a!:text\n"),
		files("a/b:1", "a/c:2", "b:3"),
		files("a:", "a-b:", "ab:", "ab0/c:"),
		files("a-/b:", "a/b:", "a0/b:"),
		files("a/b/c:", "a/bc:", "ab:"),
		files(fullest + ":"),
		files("a:\x00\xff/../\n"),
		many(api.MaxFiles, long(api.MaxAll/api.MaxFiles)),
		many(api.MaxAll/api.MaxText, long(api.MaxText)),
	} {
		same(t, i, told(nil, Check(l)), "")
	}
}

func TestCheckTellsErrors(t *testing.T) {
	tooLong := api.File{Path: "b", Text: long(api.MaxText + 1)}
	for i, c := range []struct {
		l    []api.File
		want string
	}{
		{many(api.MaxFiles+1, ""), bare(api.ErrFull)},
		{many(100000, ""), bare(api.ErrFull)},
		{files(""), faultAt(0, api.ErrName)},
		{files("a:", "b/:"), faultAt(1, api.ErrName)},
		{files("/a:"), faultAt(0, api.ErrName)},
		{files("..:"), faultAt(0, api.ErrName)},
		{files("a/../b:"), faultAt(0, api.ErrName)},
		{files("A:"), faultAt(0, api.ErrName)},
		{files("a:", fullest+"/g:"), faultAt(1, api.ErrFull)},
		{[]api.File{tooLong}, faultAt(0, api.ErrBound)},
		{files("b:", "a:"), faultAt(1, api.ErrOrder)},
		{files("a:", "c:", "b:"), faultAt(2, api.ErrOrder)},
		{files("a:", "a:"), faultAt(1, api.ErrOrder)},
		{files("a/b:", "a-b:"), faultAt(1, api.ErrOrder)},
		{files("a:", "a/b:"), faultAt(1, api.ErrClash)},
		{files("a:", "a/b/c:"), faultAt(1, api.ErrClash)},
		{files("a/b:", "a/b/c:"), faultAt(1, api.ErrClash)},
		{files("a:", "a-b:", "a.b:", "a/b:"), faultAt(3, api.ErrClash)},
		{append(many(3, long(api.MaxText)), api.File{Path: "g", Text: "x"}), bare(api.ErrBound)},
		{many(api.MaxFiles, long(api.MaxAll/api.MaxFiles+1)), bare(api.ErrBound)},
	} {
		same(t, i, told(nil, Check(c.l)), c.want)
	}
}

func TestCheckTellsTheFirst(t *testing.T) {
	big := long(api.MaxText + 1)
	much := func(behind ...api.File) []api.File {
		return append(many(4, long(api.MaxText)), behind...)
	}
	for i, c := range []struct {
		l    []api.File
		want string
	}{
		{append(files("A:"), many(api.MaxFiles, "")...), bare(api.ErrFull)},
		{[]api.File{{Path: "A", Text: big}}, faultAt(0, api.ErrName)},
		{[]api.File{{Path: fullest + "/g", Text: big}}, faultAt(0, api.ErrFull)},
		{[]api.File{{Path: "b"}, {Path: "B"}}, faultAt(1, api.ErrName)},
		{[]api.File{{Path: "b"}, {Path: "a", Text: big}}, faultAt(1, api.ErrBound)},
		{[]api.File{{Path: "b"}, {Path: "b/c", Text: big}}, faultAt(1, api.ErrBound)},
		{files("a:", "ab:", "a/b:"), faultAt(2, api.ErrOrder)},
		{files("b:", "a:", "A:"), faultAt(1, api.ErrOrder)},
		{files("a:", "a/b:", "A:"), faultAt(1, api.ErrClash)},
		{[]api.File{{Path: "a", Text: big}, {Path: "A"}}, faultAt(0, api.ErrBound)},
		{much(api.File{Path: "g"}, api.File{Path: "A"}), faultAt(5, api.ErrName)},
		{much(api.File{Path: "a"}), faultAt(4, api.ErrOrder)},
		{much(api.File{Path: "f003/x"}), faultAt(4, api.ErrClash)},
		{much(), bare(api.ErrBound)},
	} {
		same(t, i, told(nil, Check(c.l)), c.want)
	}
}

func TestSort(t *testing.T) {
	for i, c := range []struct {
		l    []api.File
		want string
	}{
		{nil, ""},
		{files("a:1"), "a:1 "},
		{files("b:1", "a/c!:2", "a/b:3"), "a/b:3 a/c!:2 b:1 "},
		{files("a/b:1", "a0:2", "a-:3"), "a-:3 a/b:1 a0:2 "},
		{files("b:", "a:", "b:"), bare(api.ErrExist)},
		{files("b:1", "a:", "b!:1"), bare(api.ErrExist)},
		{files("A:", "b:", "A:"), bare(api.ErrExist)},
		{files("b:", "A:", "b:"), bare(api.ErrExist)},
		{append(many(api.MaxFiles+1, ""), files("f001:")...), bare(api.ErrExist)},
		{many(api.MaxFiles+1, ""), bare(api.ErrFull)},
		{files("a/b:", "a:"), faultAt(1, api.ErrClash)},
		{files("b/c:", "b:", "a:"), faultAt(2, api.ErrClash)},
		{files("b:", "a/:"), faultAt(0, api.ErrName)},
		{files("a:", "~:"), faultAt(1, api.ErrName)},
		{[]api.File{{Path: "b", Text: long(api.MaxText + 1)}, {Path: "a"}}, faultAt(1, api.ErrBound)},
		{append(many(3, long(api.MaxText)), files("a:x")...), bare(api.ErrBound)},
	} {
		same(t, i, told(Sort(c.l)), c.want)
	}
}

// P21

// What every call on a tree tells first.
func TestWhatIsNoTreeIsToldFirst(t *testing.T) {
	good := files("a:")
	for i, c := range []struct {
		l    []api.File
		want string
	}{
		{files("b:", "a:"), faultAt(1, api.ErrOrder)},
		{files("a:", "A:"), faultAt(1, api.ErrName)},
		{files("a:", "a/b:"), faultAt(1, api.ErrClash)},
		{many(api.MaxFiles+1, ""), bare(api.ErrFull)},
		{many(4, long(api.MaxText)), bare(api.ErrBound)},
	} {
		same(t, i, told(Put(c.l, api.File{Path: "A"})), c.want)
		same(t, i, told(Put(c.l, c.l[1])), c.want)
		same(t, i, told(Drop(c.l, "q")), c.want)
		same(t, i, told(Drop(c.l, c.l[1].Path)), c.want)
		same(t, i, told(Under(c.l, "")), c.want)
		same(t, i, told(Under(c.l, "A")), c.want)
		same(t, i, told(Graft(c.l, "A", files("A:"))), c.want)
		same(t, i, told(Graft(good, "A", c.l)), c.want)
		same(t, i, told(Graft(c.l, "x", good)), c.want)
		same(t, i, told(Graft(good, "x", c.l)), c.want)
		same(t, i, told(Strip(c.l, -1)), c.want)
		same(t, i, told(Strip(c.l, 0)), c.want)
	}
}

func TestPut(t *testing.T) {
	l := files("a/b:1", "a/c!:2", "d:3")
	for f, want := range map[string]string{
		"a/a:9":         "a/a:9 a/b:1 a/c!:2 d:3 ",
		"a/bb:9":        "a/b:1 a/bb:9 a/c!:2 d:3 ",
		"a/c:9":         "a/b:1 a/c:9 d:3 ",
		"a/b!:":         "a/b!: a/c!:2 d:3 ",
		"d:3":           "a/b:1 a/c!:2 d:3 ",
		"d-:":           "a/b:1 a/c!:2 d:3 d-: ",
		"e!:9":          "a/b:1 a/c!:2 d:3 e!:9 ",
		"":              bare(api.ErrName),
		"A:":            bare(api.ErrName),
		"a/:":           bare(api.ErrName),
		"d/:":           bare(api.ErrName),
		fullest + "/g:": bare(api.ErrFull),
		"a:":            bare(api.ErrClash),
		"d/e:":          bare(api.ErrClash),
		"a/b/c/d:":      bare(api.ErrClash),
	} {
		same(t, f, told(Put(l, files(f)[0])), want)
	}
	same(t, "into none", told(Put(nil, files("a:1")[0])), "a:1 ")
}

func TestPutAtTheBounds(t *testing.T) {
	full := many(api.MaxFiles, "")
	same(t, "one more", told(Put(full, api.File{Path: "g"})), bare(api.ErrFull))
	same(t, "one more, that is none", told(Put(full, api.File{Path: "A"})), bare(api.ErrFull))
	same(t, "in a place", told(Put(full, api.File{Path: "f029", Run: true})), told(append(many(api.MaxFiles-1, ""), files("f029!:")...), nil))

	tooLong := api.File{Path: "d/e", Text: long(api.MaxText + 1)}
	same(t, "too long", told(Put(nil, tooLong)), bare(api.ErrBound))
	same(t, "too long, and a clash", told(Put(files("d:"), tooLong)), bare(api.ErrBound))

	most := many(3, long(api.MaxText))
	same(t, "too much", told(Put(most, files("g:x")[0])), bare(api.ErrBound))
	same(t, "too much, and a clash", told(Put(most, files("f001/a:x")[0])), bare(api.ErrClash))
	same(t, "nothing more", told(Put(most, files("g:")[0])), told(append(slices.Clone(most), files("g:")...), nil))
	same(t, "as much in a place", told(Put(most, most[1])), told(most, nil))
}

func TestDrop(t *testing.T) {
	l := files("a/b:1", "a/c!:2", "d:3")
	for p, want := range map[string]string{
		"a/b":  "a/c!:2 d:3 ",
		"a/c":  "a/b:1 d:3 ",
		"d":    "a/b:1 a/c!:2 ",
		"":     bare(api.ErrNone),
		"a":    bare(api.ErrNone),
		"a/":   bare(api.ErrNone),
		"a/bb": bare(api.ErrNone),
		"A":    bare(api.ErrNone),
		"d/e":  bare(api.ErrNone),
		"z":    bare(api.ErrNone),
	} {
		same(t, p, told(Drop(l, p)), want)
	}
	same(t, "the only one", told(Drop(files("a:"), "a")), "")
	same(t, "of none", told(Drop(nil, "a")), bare(api.ErrNone))
}

func TestUnder(t *testing.T) {
	l := files("a-b/c:0", "a/b/c!:1", "a/b/d:2", "a/b0:3", "a/c:4", "ab/c:5", "d:6")
	for dir, want := range map[string]string{
		"":      "a-b/c:0 a/b/c!:1 a/b/d:2 a/b0:3 a/c:4 ab/c:5 d:6 ",
		"a":     "b/c!:1 b/d:2 b0:3 c:4 ",
		"a/b":   "c!:1 d:2 ",
		"a-b":   "c:0 ",
		"a/b/c": "",
		"d":     "",
		"q":     "",
		"A":     "",
		"a/":    "",
		"/":     "",
		".":     "",
		"..":    "",
		"a/..":  "",
	} {
		same(t, dir, told(Under(l, dir)), want)
	}
	same(t, "of none", told(Under(nil, "")), "")
}

func TestGraft(t *testing.T) {
	l := files("a/b:1", "a/c!:2", "d:3")
	for i, c := range []struct {
		dir  string
		m    []api.File
		want string
	}{
		{"a/x", files("p!:7", "q/r:8"), "a/b:1 a/c!:2 a/x/p!:7 a/x/q/r:8 d:3 "},
		{"0", files("p:7"), "0/p:7 a/b:1 a/c!:2 d:3 "},
		{"a", files("bb:7"), "a/b:1 a/bb:7 a/c!:2 d:3 "},
		{"e", nil, "a/b:1 a/c!:2 d:3 "},
		{"d", nil, "a/b:1 a/c!:2 d:3 "},
		{"e/f/g", files("a/b/c:7"), "a/b:1 a/c!:2 d:3 e/f/g/a/b/c:7 "},
		{"", nil, bare(api.ErrName)},
		{"", files("x:"), bare(api.ErrName)},
		{"A", nil, bare(api.ErrName)},
		{"..", files("x:"), bare(api.ErrName)},
		{"a/", files("x:"), bare(api.ErrName)},
		{fullest + "/g", nil, bare(api.ErrFull)},
		{fullest, files("x:"), bare(api.ErrFull)},
		{"e/f/g", files("a/b/c:", "a/b/d/e:"), bare(api.ErrFull)},
		{"a", files("b:1"), bare(api.ErrExist)},
		{"a", files("b/x:1"), bare(api.ErrClash)},
		{"d", files("x:"), bare(api.ErrClash)},
	} {
		same(t, i, told(Graft(l, c.dir, c.m)), c.want)
	}
	same(t, "onto none", told(Graft(nil, "a", files("b:1"))), "a/b:1 ")
	same(t, "a file on a directory", told(Graft(files("x/a/b:"), "x", files("a:"))), bare(api.ErrClash))
}

func TestGraftTellsTheFirst(t *testing.T) {
	same(t, "too deep, and one of one path", told(Graft(files("a/b:"), "a", files("b:", "c/d/e/f/g/h:"))), bare(api.ErrFull))
	same(t, "too many, and a clash", told(Graft(many(api.MaxFiles, ""), "f000", files("x:"))), bare(api.ErrFull))
	full := append(files("a/b:"), many(api.MaxFiles-1, "")...)
	same(t, "too many, and one of one path", told(Graft(full, "a", files("b:"))), bare(api.ErrExist))
	most := many(3, long(api.MaxText))
	same(t, "too much", told(Graft(most, "a", files("b:x"))), bare(api.ErrBound))
	same(t, "too much, and a clash", told(Graft(most, "f000", files("b:x"))), bare(api.ErrClash))
}

func TestSame(t *testing.T) {
	l := files("a/b:1", "a/c:2", "d:3")
	for i, c := range []struct {
		a, b []api.File
		want bool
	}{
		{nil, nil, true},
		{nil, []api.File{}, true},
		{l, files("a/b:1", "a/c:2", "d:3"), true},
		{l, nil, false},
		{nil, l, false},
		{l, l[1:], false},
		{l, l[:2], false},
		{l, files("a/b:1", "a/c:2", "e:3"), false},
		{l, files("a/b:1", "a/c:9", "d:3"), false},
		{l, files("a/b:1", "a/c!:2", "d:3"), false},
		{many(1000, ""), many(1000, ""), true},
	} {
		if Same(c.a, c.b) != c.want {
			t.Errorf("%d: not %v", i, c.want)
		}
	}
}

func TestStrip(t *testing.T) {
	for i, c := range []struct {
		l    []api.File
		n    int
		want string
	}{
		{nil, 1, ""},
		{nil, -1, ""},
		{files("t/a/b:1", "t/a/c!:2", "t/d:3"), 0, "t/a/b:1 t/a/c!:2 t/d:3 "},
		{files("t/a/b:1", "t/a/c!:2", "t/d:3"), 1, "a/b:1 a/c!:2 d:3 "},
		{files("a/z:1", "b/y:2", "c/x:3"), 1, "x:3 y:2 z:1 "},
		{files("t/a/b:1", "t/a/c!:2", "t/d:3"), 2, faultAt(2, api.ErrShape)},
		{files("a:", "b/c:"), 1, faultAt(0, api.ErrShape)},
		{files("a/b:"), biggest, faultAt(0, api.ErrShape)},
		{files("a/b:", "c:"), -1, faultAt(0, api.ErrBound)},
		{files("a/b:", "c:"), -biggest - 1, faultAt(0, api.ErrBound)},
		{files("a/x:", "b/x:"), 1, bare(api.ErrExist)},
		{files("a/x:", "b/x:", "c:"), 1, faultAt(2, api.ErrShape)},
		{files("a/x:", "b/x/y:"), 1, faultAt(1, api.ErrClash)},
		{files("a/x/y:", "b/x:", "c/a:"), 1, faultAt(2, api.ErrClash)},
	} {
		same(t, i, told(Strip(c.l, c.n)), c.want)
	}
}

// P4

// answers of all calls that answer lists.
func answers(l, m []api.File) map[string][]api.File {
	out := map[string][]api.File{}
	keep := func(name string) func([]api.File, error) {
		return func(x []api.File, err error) {
			if err != nil {
				panic(name + err.Error())
			}
			out[name] = x
		}
	}
	keep("Sort")(Sort(l))
	keep("Put")(Put(l, api.File{Path: "t/b", Text: "new"}))
	keep("Put in a place")(Put(l, api.File{Path: "t/c", Text: "new"}))
	keep("Drop")(Drop(l, "t/a"))
	keep("Under")(Under(l, "t"))
	keep("Under all")(Under(l, ""))
	keep("Graft")(Graft(l, "t/s", m))
	keep("Graft none")(Graft(l, "t/s", nil))
	keep("Strip")(Strip(l, 1))
	keep("Strip none")(Strip(l, 0))
	return out
}

func TestListsAreOnlyReadAndAnswersAreNew(t *testing.T) {
	behind := files("t/a:1", "t/c:2", "t/d:3", "z/spare:4", "z/spare:5")
	first := slices.Clone(behind)
	l, m := behind[:3], files("p:", "q:")
	for name, x := range answers(l, m) {
		if !slices.Equal(behind, first) || !Same(m, files("p:", "q:")) {
			t.Fatalf("%s: what was handed over is changed: %v, %v", name, behind, m)
		}
		for i := range x[:cap(x)] {
			x[:cap(x)][i] = api.File{Path: "written"}
		}
		if !slices.Equal(behind, first) || !Same(m, files("p:", "q:")) {
			t.Fatalf("%s: the answer is the memory of what was handed over", name)
		}
	}
	unsorted := append(make([]api.File, 0, 9), files("b:", "a:")...)
	if _, err := Sort(unsorted); err != nil || told(unsorted, nil) != "b: a: " {
		t.Error("Sort:", told(unsorted, err))
	}
}

// P22

// eachTree goes through all trees, of at most three files, of some paths that clash, lie side by side, or are deep.
func eachTree(yield func([]api.File)) {
	paths := []string{"a", "a-b", "a/a", "a/b", "a/b/c", "a/bb", "b", fullest}
	var grow func(l []api.File, from int)
	grow = func(l []api.File, from int) {
		yield(l)
		for i := from; i < len(paths) && len(l) < 3; i++ {
			f := api.File{Path: paths[i], Run: i%2 == 0, Text: fmt.Sprint(i, len(l))}
			if next := append(slices.Clone(l), f); Check(next) == nil {
				grow(next, i+1)
			}
		}
	}
	slices.Sort(paths)
	grow(nil, 0)
}

func TestWhatIsGraftedIsUnderItsPlace(t *testing.T) {
	done := 0
	eachTree(func(l []api.File) {
		eachTree(func(m []api.File) {
			for _, dir := range []string{"", "a", "a/b", "b", "c/d", "a-", fullest} {
				if checkGraft(t, l, dir, m) {
					done++
				}
			}
		})
	})
	if done < 1000 {
		t.Error("only", done, "were grafted")
	}
}

// checkGraft grafts, and tells if that could be done.
func checkGraft(t *testing.T, l []api.File, dir string, m []api.File) bool {
	t.Helper()
	out, err := Graft(l, dir, m)
	if err != nil {
		if len(out) > 0 {
			t.Error(told(l, nil), dir, told(m, nil), "with an error:", told(out, err))
		}
		return false
	}
	same(t, "a tree", bare(Check(out)), "")
	under, err := Under(out, dir)
	for _, f := range m {
		if !slices.Contains(under, f) {
			t.Error(told(l, nil), dir, told(m, nil), "under it:", told(under, err))
		}
	}
	for _, f := range l {
		if !slices.Contains(out, f) {
			t.Error(told(l, nil), dir, told(m, nil), "gone:", f.Path)
		}
	}
	if len(out) != len(l)+len(m) {
		t.Error(told(l, nil), dir, told(m, nil), "too many:", told(out, nil))
	}
	return true
}

func TestWhatIsPutIsThere(t *testing.T) {
	eachTree(func(l []api.File) {
		for _, p := range []string{"", "A", "0", "a", "a-b", "a/a", "a/b", "a/b/c", "a/b/c/d", "a/c", "b", "z", fullest, fullest + "/g"} {
			checkPut(t, l, api.File{Path: p, Run: true, Text: "put"})
		}
	})
}

func checkPut(t *testing.T, l []api.File, f api.File) {
	t.Helper()
	out, err := Put(l, f)
	clash := slices.ContainsFunc(l, func(a api.File) bool { return path.In(f.Path, a.Path) || path.In(a.Path, f.Path) })
	if (err == nil) != (path.Check(f.Path) == nil && !clash) {
		t.Error(told(l, nil), f.Path, err)
	}
	if err != nil {
		return
	}
	same(t, "a tree", bare(Check(out)), "")
	if !slices.Contains(out, f) {
		t.Error(told(l, nil), f.Path, "is not in", told(out, nil))
	}
	rest, _ := Drop(out, f.Path)
	old, err := Drop(l, f.Path)
	if err != nil {
		old = l
	}
	same(t, f.Path, told(rest, nil), told(old, nil))
}

// P1

func FuzzNothingPanicsAndAnswersAreTrees(f *testing.F) {
	f.Add("a:1 b!:2", "x", "p: q/r:", 1)
	f.Add("", "", "", -1)
	f.Add("b: a: A: a/b:", "..", "a: a:", biggest)
	f.Fuzz(func(t *testing.T, first, dir, second string, n int) {
		l, m := files(strings.Split(first, " ")...), files(strings.Split(second, " ")...)
		if x, err := Sort(l); err == nil {
			l = x
		}
		put, e1 := Put(l, m[0])
		drop, e2 := Drop(l, m[0].Path)
		under, e3 := Under(l, dir)
		graft, e4 := Graft(l, dir, m)
		strip, e5 := Strip(l, n)
		for i, c := range []struct {
			l   []api.File
			err error
		}{{put, e1}, {drop, e2}, {under, e3}, {graft, e4}, {strip, e5}} {
			if c.err != nil && len(c.l) > 0 || Check(c.l) != nil {
				t.Error(i, told(c.l, c.err))
			}
		}
		Same(l, m)
	})
}
