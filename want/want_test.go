package want

import (
	"fmt"
	"math"
	"slices"
	"sort"
	"strings"
	"testing"

	"chandlery/api"
	"chandlery/link"
	"chandlery/pack"
	"chandlery/path"
	"chandlery/plain"
	"chandlery/press"
	"chandlery/sum"
	"chandlery/tree"
)

const (
	longest  = "abcdefghij-9" // of MaxName bytes
	fullest  = "a/b/c/d/e/f"  // of MaxParts parts
	tooMany  = fullest + "/g"
	greatest = 1000000006 // of sums
)

func TestEdgesAreWhereTheyAreMeant(t *testing.T) {
	if len(longest) != api.MaxName || strings.Count(fullest, "/")+1 != api.MaxParts || sum.Text(greatest) == "" || sum.Text(greatest+1) != "" {
		t.Fatal("the texts of these tests do not lie at the bounds")
	}
}

// of a kind, with nothing else of note.
func of(kind string, strip, n int) api.Want {
	return api.Want{Name: "n", URL: "http://h/x", Kind: kind, Strip: strip, Sum: n}
}

// file of words: a path (with `*` behind it, if it may be run), a colon, a text.
func file(s string) api.File {
	p, text, _ := strings.Cut(s, ":")
	p, run := strings.CutSuffix(p, "*")
	return api.File{Path: p, Run: run, Text: text}
}

// files of words, one blank between.
func files(s string) []api.File {
	var out []api.File
	for _, word := range strings.Fields(s) {
		out = append(out, file(word))
	}
	return out
}

// packed files, right or not: the same text as a pack's, without its checks.
func packed(l []api.File) string {
	s := ""
	for _, f := range l {
		mode := map[bool]string{false: "f", true: "x"}[f.Run]
		s += fmt.Sprintf("%s %s %d\n%s\n", f.Path, mode, len(f.Text), f.Text)
	}
	return s
}

// told is what a call answered, in one text: so a bare error differs from one with a place, and from another error.
func told(l []api.File, err error) string {
	var words []string
	for _, f := range l {
		words = append(words, f.Path+map[bool]string{false: ":", true: "*:"}[f.Run]+f.Text)
	}
	if err != nil {
		_, at := plain.Code(err)
		words = append(words, fmt.Sprintf("%T %v at %d", err, err, at))
	}
	return strings.Join(words, " ")
}

func bare(err error) string { return told(nil, err) }

// checkRight holds that what is wanted is right, in all calls, and stands so in its text.
func checkRight(t *testing.T, w api.Want, text string) {
	t.Helper()
	if err := Check(w); err != nil {
		t.Errorf("%v: %v", w, err)
	}
	if x := Text(w); x != text {
		t.Errorf("%v: %q, want %q", w, x, text)
	}
	if x, err := Read(text); x != w || err != nil {
		t.Errorf("%q: %v, %v, want %v", text, x, err, w)
	}
}

// checkWrong holds that all calls tell the same of what is not right, whatever came, and nothing beside it.
func checkWrong(t *testing.T, w api.Want, err error) {
	t.Helper()
	if x := told(nil, Check(w)); x != bare(err) {
		t.Errorf("%v: %s, want %s", w, x, bare(err))
	}
	if x := Text(w); x != "" {
		t.Errorf("%v: %q", w, x)
	}
	for _, s := range []string{"", "hello", "a f 1\nx\n", "1:a", strings.Repeat("x", api.MaxSource+1)} {
		if x := told(Open(w, s)); x != bare(err) {
			t.Errorf("%v: Open %s, want %s", w, x, bare(err))
		}
		if x := told(Right(w, s)); x != bare(err) {
			t.Errorf("%v: Right %s, want %s", w, x, bare(err))
		}
	}
}

// checkText holds what is told of a text that is none.
func checkText(t *testing.T, s string, err error) {
	t.Helper()
	x, told := Read(s)
	if x != (api.Want{}) || bare(told) != bare(err) {
		t.Errorf("%q: %v, %s, want %s", s, x, bare(told), bare(err))
	}
}

// checkOpened holds what is opened, in words, and that it is right with its sum alone.
func checkOpened(t *testing.T, w api.Want, s, want string) {
	t.Helper()
	l, err := Open(w, s)
	if told(l, err) != want || err != nil {
		t.Errorf("%v, %.40q: %.200s, want %.200s", w, s, told(l, err), want)
		return
	}
	n := sum.Of(packed(l))
	for _, other := range []int{n, 0, greatest, (n + 1) % (greatest + 1), (n + greatest) % (greatest + 1), sum.Of(s)} {
		w.Sum = other
		if x := told(Right(w, s)); other == n && x != want || other != n && x != bare(api.ErrSum) {
			t.Errorf("%v, %.40q: Right %.200s, the sum is %d", w, s, x, n)
		}
	}
}

// checkShut holds that what came can't be opened, whatever its sum.
func checkShut(t *testing.T, w api.Want, s string, err error) {
	t.Helper()
	for _, n := range []int{0, 1, greatest, sum.Of(s)} {
		w.Sum = n
		if x := told(Open(w, s)); x != bare(err) {
			t.Errorf("%v, %.40q: Open %.200s, want %s", w, s, x, bare(err))
		}
		if x := told(Right(w, s)); x != bare(err) {
			t.Errorf("%v, %.40q: Right %.200s, want %s", w, s, x, bare(err))
		}
	}
}

// P80

func TestWhatIsRightAndItsText(t *testing.T) {
	for text, w := range map[string]api.Want{
		"a http://h/x plain 0 s0":                                              {Name: "a", URL: "http://h/x", Kind: "plain"},
		"a http://h/x pack 0 s0":                                               {Name: "a", URL: "http://h/x", Kind: "pack"},
		"a http://h/x press 0 s0":                                              {Name: "a", URL: "http://h/x", Kind: "press"},
		"lib-1.2.tar ftp://mirror/pub/lib-1.2.tar press 1 s123456789":          {Name: "lib-1.2.tar", URL: "ftp://mirror/pub/lib-1.2.tar", Kind: "press", Strip: 1, Sum: 123456789},
		longest + " file://" + longest + "/" + fullest + " pack 6 s1000000006": {Name: longest, URL: "file://" + longest + "/" + fullest, Kind: "pack", Strip: api.MaxParts, Sum: greatest},
		"... http://.../... press 6 s1":                                        {Name: "...", URL: "http://.../...", Kind: "press", Strip: 6, Sum: 1},
		"plain http://pack/press plain 0 s1000000006":                          {Name: "plain", URL: "http://pack/press", Kind: "plain", Sum: greatest},
		"0 http://0/0 pack 5 s10":                                              {Name: "0", URL: "http://0/0", Kind: "pack", Strip: 5, Sum: 10},
		"other http://h/" + fullest + " plain 0 s98":                           {Name: "other", URL: "http://h/" + fullest, Kind: "plain", Sum: 98},
		"_ file://-/" + longest + " press 2 s100000000":                        {Name: "_", URL: "file://-/" + longest, Kind: "press", Strip: 2, Sum: 100000000},
		"s7 http://s7/s7 pack 3 s7":                                            {Name: "s7", URL: "http://s7/s7", Kind: "pack", Strip: 3, Sum: 7},
		"x http://h/" + longest + "/" + longest + " pack 4 s2":                 {Name: "x", URL: "http://h/" + longest + "/" + longest, Kind: "pack", Strip: 4, Sum: 2},
	} {
		checkRight(t, w, text)
	}
}

func wrongNames() []string {
	return []string{"", ".", "..", "A", "a b", " ", "a\n", "a/b", "/", "a/", "/a", "é", "\xff", "a:", longest + "z", fullest, tooMany}
}

func wrongLinks() map[string]error {
	return map[string]error{
		"":                          api.ErrText,
		"x":                         api.ErrText,
		"http://h":                  api.ErrText,
		"http:/h/x":                 api.ErrText,
		"zip://h/x":                 api.ErrKind,
		"HTTP://h/x":                api.ErrKind,
		"://h/x":                    api.ErrKind,
		"http://H/x":                api.ErrName,
		"http:///x":                 api.ErrName,
		"http://" + longest + "z/x": api.ErrName,
		"http://h/":                 api.ErrName,
		"http://h/x/":               api.ErrName,
		"http://h/../x":             api.ErrName,
		"http://h/\xff":             api.ErrName,
		"http://h/" + tooMany:       api.ErrFull,
	}
}

func wrongKinds() []string {
	return []string{"", "Plain", "PACK", "plai", "plainx", " pack", "pack ", "tar", "zip", "http", "pre\xff", "\n"}
}

func wrongStrips() []int { return []int{-1, api.MaxParts + 1, 9, 10, 256, math.MinInt, math.MaxInt} }

func wrongSums() []int { return []int{-1, greatest + 1, math.MinInt, math.MaxInt} }

func TestWhatIsWrongWithOneField(t *testing.T) {
	for _, kind := range []string{"plain", "pack", "press"} {
		for _, name := range wrongNames() {
			w := of(kind, 0, 7)
			w.Name = name
			checkWrong(t, w, api.ErrName)
		}
		for url, err := range wrongLinks() {
			w := of(kind, 0, 7)
			w.URL = url
			checkWrong(t, w, err)
		}
		for _, strip := range wrongStrips() {
			checkWrong(t, of(kind, strip, 7), api.ErrBound)
		}
		for _, n := range wrongSums() {
			checkWrong(t, of(kind, 0, n), api.ErrBound)
		}
	}
	for _, kind := range wrongKinds() {
		checkWrong(t, of(kind, 0, 7), api.ErrKind)
	}
	checkWrong(t, api.Want{}, api.ErrName)
}

func TestPlainIsNotStripped(t *testing.T) {
	for strip := 1; strip <= api.MaxParts; strip++ {
		checkWrong(t, of("plain", strip, 7), api.ErrShape)
		for _, kind := range []string{"pack", "press"} {
			checkRight(t, of(kind, strip, 7), fmt.Sprintf("n http://h/x %s %d s7", kind, strip))
		}
	}
}

// firstWrong tells what is wrong as the document names it, but by a list of all that is.
func firstWrong(w api.Want) error {
	var all []error
	note := func(is bool, err error) {
		if is {
			all = append(all, err)
		}
	}
	note(path.Check(w.Name) != nil || strings.Contains(w.Name, "/"), api.ErrName)
	note(link.Check(w.URL) != nil, link.Check(w.URL))
	note(!slices.Contains([]string{"plain", "pack", "press"}, w.Kind), api.ErrKind)
	note(w.Strip < 0 || w.Strip > 6, api.ErrBound)
	note(w.Strip != 0 && w.Kind == "plain", api.ErrShape)
	note(w.Sum < 0 || w.Sum > 1000000006, api.ErrBound)
	return append(all, nil)[0]
}

// mixed are wants of all mixtures of right and wrong fields.
func mixed() []api.Want {
	var out []api.Want
	for _, name := range []string{"a", longest, "", "A", "a/b", tooMany} {
		for _, url := range []string{"http://h/x", "", "zip://h/x", "http://H/x", "http://h/" + tooMany} {
			for _, kind := range []string{"plain", "pack", "press", "", "tar"} {
				for _, strip := range []int{0, 1, api.MaxParts, -1, api.MaxParts + 1} {
					for _, n := range []int{0, greatest, -1, greatest + 1} {
						out = append(out, api.Want{Name: name, URL: url, Kind: kind, Strip: strip, Sum: n})
					}
				}
			}
		}
	}
	return out
}

func TestTheFirstThatIsWrongIsTold(t *testing.T) {
	for _, w := range mixed() {
		if err := firstWrong(w); err != nil {
			checkWrong(t, w, err)
		} else {
			checkRight(t, w, fmt.Sprintf("%s %s %s %d s%d", w.Name, w.URL, w.Kind, w.Strip, w.Sum))
		}
	}
}

func TestWhatIsNoText(t *testing.T) {
	for _, s := range []string{
		"",
		" ",
		"    ",
		"a",
		"a http://h/x plain 0",
		"a http://h/x plain s7",
		"http://h/x plain 0 s7",
		"a http://h/x plain 0 s7 b",
		// One blank between, and none elsewhere.
		" a http://h/x plain 0 s7",
		"a http://h/x plain 0 s7 ",
		"a  http://h/x plain 0 s7",
		"a http://h/x  plain 0 s7",
		"a http://h/x plain  0 s7",
		"a http://h/x plain 0  s7",
		"a http://h/x plain 0 ",
		" http://h/x plain 0 s7",
		"a  plain 0 s7",
		"a http://h/x  0 s7",
		"a http://h/x plain  s7",
		"a\thttp://h/x\tplain\t0\ts7",
		"a http://h/x plain 0\ns7",
		"a\u00a0http://h/x plain 0 s7",
		// STRIP is one digit.
		"a http://h/x pack 00 s7",
		"a http://h/x pack 01 s7",
		"a http://h/x pack 10 s7",
		"a http://h/x pack -1 s7",
		"a http://h/x pack +1 s7",
		"a http://h/x pack -0 s7",
		"a http://h/x pack x s7",
		"a http://h/x pack / s7",
		"a http://h/x pack : s7",
		"a http://h/x pack 1\n s7",
		"a http://h/x pack \xff s7",
		"a http://h/x pack \u0661 s7",
		// SUM is a sum's text.
		"a http://h/x plain 0 7",
		"a http://h/x plain 0 s",
		"a http://h/x plain 0 s07",
		"a http://h/x plain 0 s-1",
		"a http://h/x plain 0 s+1",
		"a http://h/x plain 0 S7",
		"a http://h/x plain 0 s7\n",
		"a http://h/x plain 0 ss7",
		"a http://h/x plain 0 s1000000007",
		"a http://h/x plain 0 s99999999999999999999",
	} {
		checkText(t, s, api.ErrText)
		// Ahead of what else is wrong.
		checkText(t, strings.ReplaceAll(s, "http://h/x", "zip://h/"), api.ErrText)
		checkText(t, strings.Replace(s, "a", "A", 1), api.ErrText)
	}
}

func TestTextsOfWhatIsNotRight(t *testing.T) {
	for s, err := range map[string]error{
		"A http://h/x plain 0 s7":             api.ErrName,
		"a/b http://h/x plain 0 s7":           api.ErrName,
		".. zip 7 9 s7":                       api.ErrName,
		"\n zip 7 9 s7":                       api.ErrName,
		tooMany + " http://h/x plain 0 s7":    api.ErrName,
		"a zip tar 9 s7":                      api.ErrText,
		"a zip://h/x tar 9 s7":                api.ErrKind,
		"a http://h/ tar 9 s7":                api.ErrName,
		"a http://h/" + tooMany + " tar 9 s7": api.ErrFull,
		"a http://h/x tar 9 s7":               api.ErrKind,
		"a http://h/x Plain 0 s7":             api.ErrKind,
		"a http://h/x pack\n 0 s7":            api.ErrKind,
		"a http://h/x pack 7 s7":              api.ErrBound,
		"a http://h/x press 9 s7":             api.ErrBound,
		"a http://h/x plain 7 s7":             api.ErrBound,
		"a http://h/x plain 6 s7":             api.ErrShape,
		"a http://h/x plain 1 s1000000006":    api.ErrShape,
	} {
		checkText(t, s, err)
	}
}

// One byte that is dropped, put in or another one: read as what it says, or not at all, but never as if it stood there otherwise.
func TestWhatIsReadIsWrittenSo(t *testing.T) {
	const text = "ab http://h/xy pack 1 s70"
	read := 0
	for at := range len(text) + 1 {
		for b := range 256 {
			for _, s := range []string{text[:at] + text[min(at+1, len(text)):], text[:at] + string([]byte{byte(b)}) + text[at:], text[:at] + string([]byte{byte(b)}) + text[min(at+1, len(text)):]} {
				w, err := Read(s)
				if err == nil {
					read++
					checkRight(t, w, s)
				} else if w != (api.Want{}) {
					t.Errorf("%q: %v with %v", s, w, err)
				}
			}
		}
	}
	if read < 100 {
		t.Error(read)
	}
}

// P81

func TestPlainIsOneFile(t *testing.T) {
	for _, s := range []string{"", "hello", "a f 1\nx\n", "a x 1\nx\n", "3:a", "\x00\xff\n", strings.Repeat("x", api.MaxText)} {
		for _, name := range []string{"n", longest, "..."} {
			w := of("plain", 0, 0)
			w.Name = name
			// Of its name, not of what stands in its link; and it may not be run.
			checkOpened(t, w, s, name+":"+s)
		}
	}
	for _, n := range []int{api.MaxText + 1, api.MaxAll, api.MaxAll + 1, api.MaxSource, api.MaxSource + 1, 100000} {
		checkShut(t, of("plain", 0, 0), strings.Repeat("x", n), api.ErrBound)
	}
}

// checkPacked holds what a pack's text is opened as: as it is, and pressed.
func checkPacked(t *testing.T, strip int, s, want string) {
	t.Helper()
	checkOpened(t, of("pack", strip, 0), s, want)
	checkOpened(t, of("press", strip, 0), press.Press(s), want)
}

// checkNotPacked holds the same of one that can't be opened.
func checkNotPacked(t *testing.T, strip int, s string, err error) {
	t.Helper()
	checkShut(t, of("pack", strip, 0), s, err)
	checkShut(t, of("press", strip, 0), press.Press(s), err)
}

func TestPacksAreReadAndStripped(t *testing.T) {
	for _, c := range []struct {
		strip   int
		l, want string
	}{
		{0, "", ""},
		{1, "", ""},
		{6, "", ""},
		{0, "a:1", "a:1"},
		{0, "a*:1 b:", "a*:1 b:"},
		{0, "top/a/b:1 top/c*:22", "top/a/b:1 top/c*:22"},
		{1, "top/a/b:1 top/c*:22", "a/b:1 c*:22"},
		{2, "top/a/b*:1 top/c/d:22", "b*:1 d:22"},
		{5, fullest + ":x", "f:x"},
		{4, fullest + ":x", "e/f:x"},
		// What is stripped rises again.
		{1, "a/z:1 b/c*:2 d/m:3", "c*:2 m:3 z:1"},
		{1, "a/a/b:1 b/a-b:2", "a-b:2 a/b:1"},
		// The name, and the link, play no part here.
		{1, "n/x:1", "x:1"},
	} {
		checkPacked(t, c.strip, packed(files(c.l)), c.want)
	}
}

func TestWhatCantBeStripped(t *testing.T) {
	for _, c := range []struct {
		strip int
		l     string
		err   error
	}{
		{1, "a:1", api.ErrShape},
		{2, "top/a/b:1 top/c:22", api.ErrShape},
		{6, fullest + ":x", api.ErrShape},
		{1, "a/b:1 b/c:2 c:3", api.ErrShape},
		{1, "a/x:1 b/x:1", api.ErrExist},
		{1, "a/x:1 b/x:2 c/x/y:3", api.ErrExist},
		{1, "a/x/y:1 b/x:2", api.ErrClash},
		{1, "a/x:1 b/x/y:2", api.ErrClash},
		// A path that is too short, ahead of what would be, even behind it.
		{1, "a/x:1 b/x:1 c:1", api.ErrShape},
	} {
		checkNotPacked(t, c.strip, packed(files(c.l)), c.err)
	}
}

func TestWhatIsNoPack(t *testing.T) {
	big := strings.Repeat("x", api.MaxText)
	var many []api.File
	for i := range api.MaxFiles + 1 {
		many = append(many, api.File{Path: fmt.Sprintf("f%02d", i)})
	}
	for _, strip := range []int{0, 1, 6} {
		for s, err := range map[string]error{
			"x":                               api.ErrText,
			"a f 1\n":                         api.ErrText,
			"a f 1\nx":                        api.ErrText,
			"a f 2\nx\n":                      api.ErrText,
			"a g 1\nx\n":                      api.ErrText,
			"a f 01\nx\n":                     api.ErrText,
			"3:a1:b":                          api.ErrText,
			packed(files("a:1 b:2")) + "c":    api.ErrText,
			packed(files("../a:1")):           api.ErrName,
			packed(files("/a:1")):             api.ErrName,
			packed(files("a:1 B:2")):          api.ErrName,
			packed(files("a:1 ../b:2")):       api.ErrName,
			packed(files(tooMany + ":1")):     api.ErrFull,
			packed(many):                      api.ErrFull,
			packed(files("b:1 a:2")):          api.ErrOrder,
			packed(files("a:1 a:2")):          api.ErrOrder,
			packed(files("a:1 a/b:2")):        api.ErrClash,
			packed(files("a/b:" + big + "x")): api.ErrBound,
			packed(files("a/b:" + big + " a/c:" + big + " a/d:" + big + " a/e:x")): api.ErrBound,
		} {
			checkNotPacked(t, strip, s, err)
		}
	}
}

func TestPacksAtTheBounds(t *testing.T) {
	big := strings.Repeat("x", api.MaxText)
	all := "t/a:" + big + " t/b:" + big + " t/c:" + big
	checkPacked(t, 0, packed(files(all)), all)
	checkPacked(t, 1, packed(files(all)), strings.ReplaceAll(all, "t/", ""))
	var many, stripped []api.File
	for i := range api.MaxFiles {
		many = append(many, api.File{Path: fmt.Sprintf("t/f%02d", i), Run: i%2 == 0})
		stripped = append(stripped, api.File{Path: fmt.Sprintf("f%02d", i), Run: i%2 == 0})
	}
	checkPacked(t, 0, packed(many), told(many, nil))
	checkPacked(t, 1, packed(many), told(stripped, nil))
}

func TestMoreThanMayComeIsNotOpened(t *testing.T) {
	for _, kind := range []string{"plain", "pack", "press"} {
		for _, s := range []string{"x", "\n", "a f 1\nx\n", "1:a", "9:"} {
			// As many bytes as make the bound, and one more: whatever else is wrong with them.
			checkShut(t, of(kind, 0, 0), strings.Repeat(s, api.MaxSource+1)[:api.MaxSource+1], api.ErrBound)
		}
	}
	most := strings.Repeat("x", api.MaxSource)
	checkShut(t, of("pack", 0, 0), most, api.ErrText)
	checkShut(t, of("press", 0, 0), most, api.ErrText)
}

// eachByte is a run of one, pressed.
func eachByte(s string) string {
	out := ""
	for i := range len(s) {
		out += "1:" + s[i:i+1]
	}
	return out
}

// longPressed is a right pack, pressed byte by byte, but for some runs of ten; and what it is opened as.
func longPressed(size, tens int) (s, want string) {
	want = "a:" + strings.Repeat("y", api.MaxText) + " b*:" + strings.Repeat("z", size)
	ahead, behind, _ := strings.Cut(packed(files(want)), strings.Repeat("y", 10*tens))
	return eachByte(ahead) + strings.Repeat("10:y", tens) + eachByte(behind), want
}

func TestAsMuchAsMayComeIsOpened(t *testing.T) {
	s, want := longPressed(2664, 2)
	if len(s) != api.MaxSource {
		t.Fatal(len(s))
	}
	checkOpened(t, of("press", 0, 0), s, want)
	s, _ = longPressed(2673, 3)
	if len(s) != api.MaxSource+1 {
		t.Fatal(len(s))
	}
	checkShut(t, of("press", 0, 0), s, api.ErrBound)
}

func TestWhatIsNotPressed(t *testing.T) {
	for _, strip := range []int{0, 1, 6} {
		for s, err := range map[string]error{
			"x":              api.ErrText,
			"1":              api.ErrText,
			"1:":             api.ErrText,
			":a":             api.ErrText,
			"0:a":            api.ErrText,
			"01:a":           api.ErrText,
			"1:a1":           api.ErrText,
			"a f 1\nx\n":     api.ErrText,
			"1000000000:a":   api.ErrText,
			"20001:a1":       api.ErrText,
			"20001:a":        api.ErrFull,
			"20000:a1:b":     api.ErrFull,
			"10000:a10001:a": api.ErrFull,
			"999999999:a":    api.ErrFull,
			// So much may be opened, but it is no pack.
			"20000:a":        api.ErrText,
			"10000:a10000:b": api.ErrText,
			"1:a":            api.ErrText,
		} {
			checkShut(t, of("press", strip, 0), s, err)
		}
		checkShut(t, of("press", strip, 0), strings.Repeat("999999999:a", 1800), api.ErrFull)
	}
}

// A run may be told in pieces: it is opened as one.
func TestWhatIsPressedOtherwiseIsOpenedTheSame(t *testing.T) {
	text := packed(files("t/a*:xxx t/b:"))
	checkOpened(t, of("press", 1, 0), eachByte(text), "a*:xxx b:")
	checkOpened(t, of("press", 1, 0), press.Press(text), "a*:xxx b:")
}

func TestOneTextOfEachKind(t *testing.T) {
	text := packed(files("t/a:1"))
	checkOpened(t, of("plain", 0, 0), text, "n:"+text)
	checkOpened(t, of("pack", 0, 0), text, "t/a:1")
	checkShut(t, of("press", 0, 0), text, api.ErrText)
	text = press.Press(text)
	checkOpened(t, of("plain", 0, 0), text, "n:"+text)
	checkShut(t, of("pack", 0, 0), text, api.ErrText)
	checkOpened(t, of("press", 0, 0), text, "t/a:1")
}

// The sum is that of the tree: not that of what came, and not that of the tree ahead of Strip.
func TestTheSumIsThatOfTheTree(t *testing.T) {
	came := packed(files("t/a:1 t/b*:2"))
	right := sum.Of("a f 1\n1\nb x 1\n2\n")
	for _, n := range []int{sum.Of(came), right, sum.Of(press.Press(came)), sum.Of("a f 1\n1\nb f 1\n2\n"), 0} {
		want := bare(api.ErrSum)
		if n == right {
			want = "a:1 b*:2"
		}
		if x := told(Right(of("pack", 1, n), came)); x != want {
			t.Errorf("%d: %s, want %s", n, x, want)
		}
		if x := told(Right(of("press", 1, n), press.Press(came))); x != want {
			t.Errorf("%d: pressed %s, want %s", n, x, want)
		}
	}
	if x := told(Right(of("plain", 0, sum.Of("n f 5\nhello\n")), "hello")); x != "n:hello" {
		t.Error(x)
	}
	if x := told(Right(of("plain", 0, sum.Of("hello")), "hello")); x != bare(api.ErrSum) {
		t.Error(x)
	}
	// The name of what comes plain is in the sum, too.
	w := of("plain", 0, sum.Of("n f 5\nhello\n"))
	w.Name = "m"
	if x := told(Right(w, "hello")); x != bare(api.ErrSum) {
		t.Error(x)
	}
}

// smallTrees are all lists of up to three files of some paths, right or not.
func smallTrees() [][]api.File {
	var single []api.File
	for _, p := range []string{"a", "a/x", "b/x", "a/x/y", "b/x/y", "c/d-e", fullest, "..", ""} {
		single = append(single, api.File{Path: p, Run: len(p)%2 == 0, Text: p})
	}
	out := [][]api.File{nil}
	for _, f := range single {
		out = append(out, []api.File{f})
		for _, g := range single {
			out = append(out, []api.File{f, g})
			for _, h := range single {
				out = append(out, []api.File{f, g, h})
			}
		}
	}
	return out
}

// expected works out what a pack of files is opened as, part by part, without the calls that strip.
func expected(l []api.File, strip int) ([]api.File, error) {
	if err := tree.Check(l); err != nil {
		_, at := plain.Code(err)
		if at < 0 {
			return nil, err
		}
		return nil, err.(*api.Fault).Err
	}
	out := slices.Clone(l)
	for i := range out {
		parts := strings.Split(out[i].Path, "/")
		if strip >= len(parts) {
			return nil, api.ErrShape
		}
		out[i].Path = strings.Join(parts[strip:], "/")
	}
	sort.SliceStable(out, func(i, j int) bool { return out[i].Path < out[j].Path })
	var wrong error
	for i := range out {
		for j := range i {
			if out[i].Path == out[j].Path {
				return nil, api.ErrExist
			}
			if strings.HasPrefix(out[i].Path, out[j].Path+"/") {
				wrong = api.ErrClash
			}
		}
	}
	if wrong != nil {
		return nil, wrong
	}
	return out, nil
}

func TestAllSmallTrees(t *testing.T) {
	opened, shut := 0, 0
	for _, l := range smallTrees() {
		for strip := range api.MaxParts + 1 {
			want, err := expected(l, strip)
			if err == nil {
				opened++
				checkPacked(t, strip, packed(l), told(want, nil))
			} else {
				shut++
				checkNotPacked(t, strip, packed(l), err)
			}
		}
	}
	if opened < 60 || shut < 1000 {
		t.Error(opened, shut)
	}
}

// P82

// checkAlways holds what is so of all that is wanted, and of all that comes.
func checkAlways(t *testing.T, w api.Want, s string) {
	t.Helper()
	l, err := Right(w, s)
	opened, shut := Open(w, s)
	if err != nil {
		if len(l) > 0 || shut != nil && told(nil, err) != told(nil, shut) || shut == nil && told(nil, err) != bare(api.ErrSum) {
			t.Errorf("%v, %.40q: %v, %v, but it is opened as %v, %v", w, s, l, err, opened, shut)
		}
		return
	}
	n, err := pack.Sum(l)
	if n != w.Sum || err != nil || !tree.Same(l, opened) || shut != nil {
		t.Errorf("%v, %.40q: %v is right, and has %d, %v", w, s, l, n, err)
	}
}

func TestWhatIsRightHasTheSum(t *testing.T) {
	trees := []string{"", "a:1", "a:2", "a*:1", "b:1", "t/a:1", "t/a:1 t/b:2", "t/a:1 t/b*:2", "u/a:1 u/b:2"}
	var came []string
	var sums []int
	for _, s := range trees {
		l := files(s)
		came = append(came, packed(l), press.Press(packed(l)))
		sums = append(sums, sum.Of(packed(l)), sum.Of(packed([]api.File{{Path: "n", Text: packed(l)}})))
	}
	right := 0
	for _, s := range came {
		for _, n := range sums {
			for _, w := range []api.Want{of("plain", 0, n), of("pack", 0, n), of("pack", 1, n), of("press", 0, n), of("press", 1, n)} {
				checkAlways(t, w, s)
				if _, err := Right(w, s); err == nil {
					right++
				}
			}
		}
	}
	if right < 30 {
		t.Error(right)
	}
}

// With one byte another one, what came is not right any more.
func TestWhatIsChangedOnTheWayIsNotRight(t *testing.T) {
	text := packed(files("t/a*:hello t/b:world"))
	n := sum.Of(packed(files("a*:hello b:world")))
	for _, w := range []api.Want{of("pack", 1, n), of("press", 1, n)} {
		s := text
		if w.Kind == "press" {
			s = press.Press(text)
		}
		if _, err := Right(w, s); err != nil {
			t.Fatal(err)
		}
		for at := range len(s) {
			if l, err := Right(w, s[:at]); len(l) > 0 || err == nil {
				t.Errorf("%s: cut at %d: %v, %v", w.Kind, at, l, err)
			}
			for b := range 256 {
				checkAlways(t, w, s[:at]+string([]byte{byte(b)})+s[at+1:])
			}
		}
	}
	w := of("plain", 0, sum.Of("n f 5\nhello\n"))
	for at := range 5 {
		for b := range 256 {
			s := "hello"[:at] + string([]byte{byte(b)}) + "hello"[at+1:]
			if _, err := Right(w, s); (err == nil) != (s == "hello") {
				t.Errorf("%q: %v", s, err)
			}
		}
	}
}

// P2 and P4

func TestAnswersAreNewMemory(t *testing.T) {
	text := packed(files("t/a*:1 t/b:2"))
	n := sum.Of(packed(files("a*:1 b:2")))
	for _, c := range []struct {
		w       api.Want
		s, want string
	}{
		{of("plain", 0, sum.Of("n f 5\nhello\n")), "hello", "n:hello"},
		{of("pack", 1, n), text, "a*:1 b:2"},
		{of("press", 1, n), press.Press(text), "a*:1 b:2"},
	} {
		for range 2 {
			for _, call := range []func(api.Want, string) ([]api.File, error){Open, Right} {
				l, err := call(c.w, c.s)
				if told(l, err) != c.want {
					t.Fatalf("%v: %s, want %s", c.w, told(l, err), c.want)
				}
				for i := range l[:cap(l)] {
					l[:cap(l)][i] = api.File{Path: "written", Run: true, Text: "written"}
				}
			}
		}
	}
}

// P1

func FuzzNothingPanics(f *testing.F) {
	text := packed(files("t/a*:1 t/b:2"))
	for _, kind := range []string{"plain", "pack", "press", "", "tar"} {
		for _, s := range []string{"", "hello", text, press.Press(text), "20001:x", "999999999:x", "a f 999999\n", "n http://h/x pack 1 s7", "n  x 9 s"} {
			f.Add("n", "http://h/x", kind, 1, 7, s)
			f.Add("n", "http://h/x", kind, 0, sum.Of(s), s)
			f.Add(s, s, kind, -1, math.MaxInt, s)
		}
	}
	f.Fuzz(func(t *testing.T, name, url, kind string, strip, n int, s string) {
		w := api.Want{Name: name, URL: url, Kind: kind, Strip: strip, Sum: n}
		checkAlways(t, w, s)
		if err := firstWrong(w); err != nil {
			checkWrong(t, w, err)
		} else {
			checkRight(t, w, fmt.Sprintf("%s %s %s %d s%d", name, url, kind, strip, n))
		}
		if w, err := Read(s); err == nil {
			checkRight(t, w, s)
		} else if w != (api.Want{}) {
			t.Errorf("%q: %v with %v", s, w, err)
		}
	})
}
