package pack

import (
	"fmt"
	"slices"
	"strings"
	"testing"

	"chandlery/api"
	"chandlery/path"
	"chandlery/plain"
	"chandlery/sum"
	"chandlery/tree"
)

const (
	longest = "abcdefghij-9" // a part of MaxName bytes
	fullest = "a/b/c/d/e/f"  // of MaxParts parts
)

func long(n int) string { return strings.Repeat("x", max(n, 0)) }

// many files with rising paths, and a text each.
func many(n int, text string) []api.File {
	var out []api.File
	for i := range n {
		out = append(out, api.File{Path: fmt.Sprintf("f%03d", i), Text: text})
	}
	return out
}

// greatest is the tree that makes the longest pack: all bounds are met at once.
func greatest() []api.File {
	out := many(api.MaxFiles, long(api.MaxAll/api.MaxFiles))
	for i := range out {
		out[i].Path += strings.Repeat("z", api.MaxName-4) + strings.Repeat("/"+longest, api.MaxParts-1)
		out[i].Run = i%2 == 0
	}
	return out
}

// told is an error in one text: so a bare error differs from one with a place, and from another error.
func told(err error) string {
	if err == nil {
		return ""
	}
	_, at := plain.Code(err)
	return fmt.Sprintf("%T %v at %d", err, err, at)
}

func faultAt(at int, err error) error { return &api.Fault{At: at, Err: err} }

// packs are texts and the trees that they are of.
func packs() map[string][]api.File {
	return map[string][]api.File{
		"":                                               nil,
		"a f 0\n\n":                                      {{Path: "a"}},
		"a x 0\n\n":                                      {{Path: "a", Run: true}},
		"a/b x 2\nhi\n":                                  {{Path: "a/b", Run: true, Text: "hi"}},
		"a f 1\n\n\n":                                    {{Path: "a", Text: "\n"}},
		"a f 2\n\n\n\n":                                  {{Path: "a", Text: "\n\n"}},
		"a f 1\n \n":                                     {{Path: "a", Text: " "}},
		"a f 3\n\x00\xff\r\n":                            {{Path: "a", Text: "\x00\xff\r"}},
		"a f 2\né\n":                                     {{Path: "a", Text: "é"}},
		"a f 8\nb f 0\n\n\n\n":                           {{Path: "a", Text: "b f 0\n\n\n"}},
		"a f 7\nb f 0\n\n\nb x 7\na f 0\n\n\n":           {{Path: "a", Text: "b f 0\n\n"}, {Path: "b", Run: true, Text: "a f 0\n\n"}},
		"f f 0\n\nx x 1\n0\n":                            {{Path: "f"}, {Path: "x", Run: true, Text: "0"}},
		"0 f 1\n0\n1/2 x 1\n\n\n":                        {{Path: "0", Text: "0"}, {Path: "1/2", Run: true, Text: "\n"}},
		"a f 0\n\na-b f 0\n\nab/c x 0\n\n":               {{Path: "a"}, {Path: "a-b"}, {Path: "ab/c", Run: true}},
		"... f 3\n../\n_/- x 0\n\n":                      {{Path: "...", Text: "../"}, {Path: "_/-", Run: true}},
		"a f 9\n" + long(9) + "\n":                       {{Path: "a", Text: long(9)}},
		"a f 10\n" + long(10) + "\n":                     {{Path: "a", Text: long(10)}},
		"a f 100\n" + long(100) + "\n":                   {{Path: "a", Text: long(100)}},
		fullest + " x 4000\n" + long(4000) + "\n":        {{Path: fullest, Run: true, Text: long(4000)}},
		strings.Repeat(longest+"/", 5) + "a f 0\n\n":     {{Path: strings.Repeat(longest+"/", 5) + "a"}},
		"a f 1\nb\nb f 4000\n" + long(4000) + "\n":       {{Path: "a", Text: "b"}, {Path: "b", Text: long(4000)}},
		"a/b f 8\nhi\nthere\na/c x 0\n\nd f 1\n\n\n":     {{Path: "a/b", Text: "hi\nthere"}, {Path: "a/c", Run: true}, {Path: "d", Text: "\n"}},
		"a f 7\n\x00\n\x00 \n\n\n\nb x 3\n\n0\n\n":       {{Path: "a", Text: "\x00\n\x00 \n\n\n"}, {Path: "b", Run: true, Text: "\n0\n"}},
		"a f 4000\n" + strings.Repeat("\n", 4000) + "\n": {{Path: "a", Text: strings.Repeat("\n", 4000)}},
	}
}

// noTrees are lists of files, and what tree.Check tells of them.
func noTrees() []struct {
	l    []api.File
	want error
} {
	return []struct {
		l    []api.File
		want error
	}{
		{many(api.MaxFiles+1, ""), api.ErrFull},
		{append([]api.File{{Path: "A"}}, many(api.MaxFiles, "")...), api.ErrFull},
		{[]api.File{{Path: ""}}, faultAt(0, api.ErrName)},
		{[]api.File{{Path: "A"}}, faultAt(0, api.ErrName)},
		{[]api.File{{Path: "."}}, faultAt(0, api.ErrName)},
		{[]api.File{{Path: ".."}}, faultAt(0, api.ErrName)},
		{[]api.File{{Path: "/"}}, faultAt(0, api.ErrName)},
		{[]api.File{{Path: "/a", Text: "b"}}, faultAt(0, api.ErrName)},
		{[]api.File{{Path: "../a", Text: "b"}}, faultAt(0, api.ErrName)},
		{[]api.File{{Path: "a/.."}}, faultAt(0, api.ErrName)},
		{[]api.File{{Path: "a/../../b", Run: true}}, faultAt(0, api.ErrName)},
		{[]api.File{{Path: "a//b"}}, faultAt(0, api.ErrName)},
		{[]api.File{{Path: "a/"}}, faultAt(0, api.ErrName)},
		{[]api.File{{Path: `a\b`}}, faultAt(0, api.ErrName)},
		{[]api.File{{Path: "a\tb"}}, faultAt(0, api.ErrName)},
		{[]api.File{{Path: "é"}}, faultAt(0, api.ErrName)},
		{[]api.File{{Path: "a"}, {Path: "b\x00"}}, faultAt(1, api.ErrName)},
		{[]api.File{{Path: longest + "z"}}, faultAt(0, api.ErrName)},
		{[]api.File{{Path: "a"}, {Path: fullest + "/g"}}, faultAt(1, api.ErrFull)},
		{[]api.File{{Path: "a", Text: long(api.MaxText + 1)}}, faultAt(0, api.ErrBound)},
		{[]api.File{{Path: "b"}, {Path: "a"}}, faultAt(1, api.ErrOrder)},
		{[]api.File{{Path: "a"}, {Path: "a"}}, faultAt(1, api.ErrOrder)},
		{[]api.File{{Path: "a"}, {Path: "c"}, {Path: "b"}}, faultAt(2, api.ErrOrder)},
		{[]api.File{{Path: "a"}, {Path: "a/b"}}, faultAt(1, api.ErrClash)},
		{[]api.File{{Path: "a"}, {Path: "a-b"}, {Path: "a/b"}}, faultAt(2, api.ErrClash)},
		{append(many(3, long(api.MaxText)), api.File{Path: "g", Text: "x"}), api.ErrBound},
		{append(many(4, long(api.MaxText)), api.File{Path: "A"}), faultAt(4, api.ErrName)},
		{many(4, long(api.MaxText)), api.ErrBound},
	}
}

// laid is the form of a pack, by other means, also of what is no tree.
func laid(l []api.File) string {
	s := ""
	for _, f := range l {
		s += fmt.Sprintf("%s %c %d\n%s\n", f.Path, map[bool]rune{true: 'x', false: 'f'}[f.Run], len(f.Text), f.Text)
	}
	return s
}

// P40

func checkMake(t *testing.T, l []api.File, want string) {
	t.Helper()
	if s, err := Make(l); s != want || err != nil {
		t.Errorf("%.80q: %.80q, %v", want, s, err)
	}
	if n, err := Sum(l); n != sum.Of(want) || err != nil {
		t.Errorf("%.80q: sum %d, %v", want, n, err)
	}
}

func checkRead(t *testing.T, s string, want []api.File) {
	t.Helper()
	if l, err := Read(s); !slices.Equal(l, want) || err != nil {
		t.Errorf("%.80q: %.80q, %v", s, laid(l), err)
	}
}

func checkWrong(t *testing.T, s string, want error) {
	t.Helper()
	if l, err := Read(s); len(l) > 0 || told(err) != told(want) {
		t.Errorf("%.80q: %d files, %s, want %s", s, len(l), told(err), told(want))
	}
}

func TestMakeAndRead(t *testing.T) {
	for s, l := range packs() {
		checkMake(t, l, s)
		checkRead(t, s, l)
	}
	checkMake(t, []api.File{}, "")
}

func TestSum(t *testing.T) {
	if n, err := Sum(nil); n != 0 || err != nil {
		t.Error(n, err)
	}
	// By hand: the bytes of `a f 0`, and two line ends.
	want := 0
	for _, b := range []int{97, 32, 102, 32, 48, 10, 10} {
		want = (want*263 + b + 1) % 1000000007
	}
	if n, err := Sum([]api.File{{Path: "a"}}); n != want || err != nil {
		t.Error(n, err, want)
	}
}

func TestMakeAndSumAndReadTellTreesThatAreNone(t *testing.T) {
	for i, c := range noTrees() {
		if s, err := Make(c.l); s != "" || told(err) != told(c.want) {
			t.Errorf("%d: Make %.80q, %s, want %s", i, s, told(err), told(c.want))
		}
		if n, err := Sum(c.l); n != 0 || told(err) != told(c.want) {
			t.Errorf("%d: Sum %d, %s, want %s", i, n, told(err), told(c.want))
		}
		checkWrong(t, laid(c.l), c.want)
	}
	// What has no form in a pack is still told of a tree.
	for _, p := range []string{"a b", "a\nb", " ", "\n"} {
		if s, err := Make([]api.File{{Path: p}}); s != "" || told(err) != told(faultAt(0, api.ErrName)) {
			t.Errorf("%q: %q, %s", p, s, told(err))
		}
	}
}

// wrongFiles are none, whatever stands ahead of them.
func wrongFiles() []string {
	return []string{
		// No end of the first line.
		"x", "a", " ", "a ", "a f", "a f ", "a f 0", "a f 1", "a x 4000", "\x00", "a f 0\r",
		// No three words.
		"\n", "\n\n", " \n", "a\n", "a \n", "a f\n", "a f\n\n", "a f \n\n", "a 0\n\n", "f 0\n\n", "a  0\n\n", "a f 0 \n\n", " a f 0\n\n", "a  f 0\n\n", "a f  0\n\n", "a f 0 0\n\n", "a b f 0\n\n", "a f f 0\n\n", "a\tf\t0\n\n", "a f\t0\n\n", "a,f,0\n\n", "a f\n0\n\n", "a\nf 0\n\n",
		// No mode.
		"a g 0\n\n", "a F 0\n\n", "a X 0\n\n", "a fx 0\n\n", "a xf 0\n\n", "a ff 0\n\n", "a xx 0\n\n", "a - 0\n\n", "a 1 0\n\n", "a true 0\n\n", "a 0 f\n\n", "f a 0\n\n", "a 0 0\n\n",
		// No number.
		"a f x\n\n", "a f -0\n\n", "a f +0\n\n", "a f -1\nb\n", "a f +1\nb\n", "a f 00\n\n", "a f 01\nb\n", "a f 001\nb\n", "a f 000001\nb\n", "a f 0000001\nb\n", "a f 0x1\nb\n", "a f 0b1\nb\n", "a f 1_0\n0123456789\n", "a f 1.0\nb\n", "a f 1e0\nb\n", "a f 1,0\nb\n", "a f 1x\nb\n", "a f １\nb\n", "a f \xff\n\n", "a f 0\x00\n\n", "a f 0\r\n\n", "a f 1\r\nb\r\n",
		// Numbers that are too long, or too great.
		"a f 999999\nb\n", "a f 1000000\nb\n", "a f 1234567\nb\n", "a f 0000000\n\n", "a f 4294967296\n\n", "a f 4294967297\nb\n", "a f 9223372036854775807\nb\n", "a f 9223372036854775808\nb\n", "a f 18446744073709551616\n\n", "a f 18446744073709551617\nb\n", "a f -9223372036854775808\nb\n", "a f " + strings.Repeat("9", 5000) + "\nb\n", "a f " + strings.Repeat("0", 5000) + "\n\n",
		// Not so many bytes.
		"a f 1\n", "a f 2\nb", "a f 3\nb\n", "a f 3\n\n\n", "a f 4000\n" + long(3998) + "\n", "a x 20000\n" + long(4000) + "\n",
		// No line end behind.
		"a f 0\n", "a f 1\nb", "a f 1\n\n", "a f 2\nb\n", "a f 0\nb", "a f 0\nb\n", "a f 1\nbc", "a f 1\nbc\n", "a f 1\nb \n", "a f 1\nb\r\n", "a f 1\né\n", "a f 0\n\r\n", "a f 0\nb f 0\n\n", "a f 4000\n" + long(4001) + "\n",
		// Paths and modes that are none are not looked at yet.
		"../a f 1\n", "A f 00\n\n", "/ y 0\n\n",
	}
}

func TestReadTellsTexts(t *testing.T) {
	for _, s := range wrongFiles() {
		checkWrong(t, s, faultAt(0, api.ErrText))
		checkWrong(t, "0 f 0\n\n"+s, faultAt(1, api.ErrText))
		checkWrong(t, "0 f 2\n\n\n\n1 x 6\na f 0\n\n"+"\n"+s, faultAt(2, api.ErrText))
	}
	checkWrong(t, laid(many(api.MaxFiles, "text"))+"x", faultAt(api.MaxFiles, api.ErrText))
}

func TestReadTellsTheFirstText(t *testing.T) {
	checkWrong(t, "a g 0\n\nb g 0\n\n", faultAt(0, api.ErrText))
	checkWrong(t, "a f 0\n\nb g 0\n\nc g 0\n\n", faultAt(1, api.ErrText))
	checkWrong(t, "a f 0\n\nb f 1\n\nc f 0\n\n", faultAt(1, api.ErrText))
}

func TestReadTellsTextsAheadOfTrees(t *testing.T) {
	for _, c := range noTrees() {
		s := laid(c.l)
		if len(s) < api.MaxSource {
			checkWrong(t, s+"x", faultAt(len(c.l), api.ErrText))
		}
	}
	checkWrong(t, strings.Repeat("a f 0\n\n", 500)+"a f 0\n", faultAt(500, api.ErrText))
	checkWrong(t, strings.Repeat("a f 0\n\n", 500), api.ErrFull)
}

func TestReadTellsPathsByTheTree(t *testing.T) {
	checkWrong(t, " f 0\n\n", faultAt(0, api.ErrName))
	checkWrong(t, "a f 0\n\n x 1\nb\n", faultAt(1, api.ErrName))
	checkWrong(t, "/a f 0\n\n../b f 0\n\n", faultAt(0, api.ErrName))
	checkWrong(t, strings.Repeat(" f 0\n\n", api.MaxFiles), faultAt(0, api.ErrName))
	checkWrong(t, strings.Repeat(" f 0\n\n", api.MaxFiles+1), api.ErrFull)
}

func TestReadAtTheBounds(t *testing.T) {
	for _, more := range []int{0, 1} {
		sizes := []string{long(api.MaxSource + more), strings.Repeat("\n", api.MaxSource+more), fmt.Sprintf("a f %d\n%s\n", 19989+more, long(19989+more))}
		for i, s := range sizes {
			if len(s) != api.MaxSource+more {
				t.Fatal("the texts of this test do not lie at the bound")
			}
			want := []error{faultAt(0, api.ErrText), faultAt(0, api.ErrText), faultAt(0, api.ErrBound)}[i]
			if more > 0 {
				want = api.ErrBound
			}
			checkWrong(t, s, want)
		}
	}
	checkWrong(t, long(api.MaxBytes), api.ErrBound)
	checkWrong(t, strings.Repeat("a f 0\n\n", 3000), api.ErrBound)
}

func TestReadOfEachByteInAHead(t *testing.T) {
	for b := range 256 {
		one := string([]byte{byte(b)})
		isDigit := '0' <= b && b <= '9'
		for s, right := range map[string]bool{
			"a" + one + "f 0\n\n":                        b == ' ',
			"a f" + one + "0\n\n":                        b == ' ',
			"a " + one + " 0\n\n":                        b == 'f' || b == 'x',
			"a f 0" + one + "\n":                         b == '\n',
			"a f 0\n" + one:                              b == '\n',
			"a f 3\n" + one + one + one + "\n":           true,
			"a f " + one + "\n" + long(b-48) + "\n":      isDigit,
			"a f 1" + one + "\n" + long(b-38) + "\n":     isDigit || b == '\n', // A line end there, and the text is the next one.
			"a f " + one + "1\n" + long(b*10-479) + "\n": isDigit && b != '0',
		} {
			if l, err := Read(s); right && (err != nil || laid(l) != s) || !right && (len(l) > 0 || told(err) != told(faultAt(0, api.ErrText))) {
				t.Errorf("byte %d: %.80q: %.80q, %s", b, s, laid(l), told(err))
			}
		}
	}
}

// P41

// eachTree hands on all trees of some paths, with modes and texts that go round.
func eachTree(do func([]api.File)) {
	paths := []string{"a", "a-b", "a/b", "a/b/c", "b", "c/d", fullest, "x"}
	slices.Sort(paths)
	texts := []string{"", "\n", "hi", "a f 0\n\n", "\x00\xff", "\n\nb x 1", " "}
	for set := range 1 << len(paths) {
		var l []api.File
		for i, p := range paths {
			if set>>i&1 == 1 {
				l = append(l, api.File{Path: p, Run: (set+i)%2 == 0, Text: texts[(set+i)%len(texts)]})
			}
		}
		if tree.Check(l) == nil {
			do(l)
		}
	}
}

func checkRound(t *testing.T, l []api.File) {
	t.Helper()
	s, err := Make(l)
	if err != nil || s != laid(l) {
		t.Errorf("%.80q: %.80q, %v", laid(l), s, err)
	}
	checkRead(t, s, l)
}

func TestATreeIsReadAsItWasWritten(t *testing.T) {
	eachTree(func(l []api.File) { checkRound(t, l) })
	checkRound(t, greatest())
	checkRound(t, many(api.MaxAll/api.MaxText, strings.Repeat("\n", api.MaxText)))
	for n := range api.MaxText + 1 {
		if n < 300 || n > api.MaxText-10 || n%100 < 2 {
			checkRound(t, []api.File{{Path: "a", Text: long(n)}, {Path: "b", Run: true, Text: "\n"}})
		}
	}
	for b := range 256 {
		one := string([]byte{byte(b)})
		checkRound(t, []api.File{{Path: "a", Text: one}, {Path: "b", Run: true, Text: one + one}})
	}
}

func TestTheGreatestIsWithinWhatIsRead(t *testing.T) {
	l := greatest()
	if s, err := Make(l); err != nil || len(s) > api.MaxSource || len(l[0].Path) != api.MaxParts*(api.MaxName+1)-1 {
		t.Error(len(s), err, l[0].Path)
	}
}

func TestNoTwoTreesAreOnePack(t *testing.T) {
	seen := map[string]int{}
	eachTree(func(l []api.File) {
		s, _ := Make(l)
		seen[s]++
		if seen[s] > 1 {
			t.Errorf("%q is made twice", s)
		}
	})
}

// checkAny holds what is read of any text: it is written as it was, and stays inside.
func checkAny(t *testing.T, s string) {
	t.Helper()
	l, err := Read(s)
	if err != nil && len(l) > 0 {
		t.Errorf("%.80q: %d files with %v", s, len(l), err)
	}
	if code, _ := plain.Code(err); code < 0 {
		t.Errorf("%.80q: %v", s, err)
	}
	if err != nil {
		return
	}
	if again, err := Make(l); again != s || err != nil {
		t.Errorf("%.80q: written again %.80q, %v", s, again, err)
	}
	for _, f := range l {
		if clean, err := path.Clean(f.Path); clean != f.Path || clean == "" || err != nil {
			t.Errorf("%.80q: leads out: %q, %v", s, f.Path, err)
		}
	}
}

func TestWhatIsReadIsNeverOutside(t *testing.T) {
	for _, p := range []string{"..", "../a", "a/..", "a/../..", "a/../b", "./a", ".", "/", "/a", "//a", "a//b", "a/", "", `..\a`, "a/./b", "a/b/../../../c", "..../..", "~", "c:"} {
		for _, s := range []string{p + " f 0\n\n", p + " x 1\nb\n", "0 f 0\n\n" + p + " f 0\n\n", p + " f 0\n\nz f 0\n\n"} {
			if l, err := Read(s); err == nil || len(l) > 0 {
				t.Errorf("%q: %q", s, laid(l))
			}
		}
	}
}

func TestOfAPackThatIsCutOrChanged(t *testing.T) {
	const s = "a/b f 8\nhi\nthere\na/c x 0\n\nd f 11\n0123456789\n\n"
	ends := []int{0, 17, 26, len(s)}
	for at := range len(s) + 1 {
		if _, err := Read(s[:at]); (err == nil) != slices.Contains(ends, at) {
			t.Errorf("cut at %d: %v", at, err)
		}
		checkAny(t, s[at:])
	}
	for at := range len(s) {
		checkAny(t, s[:at]+s[at+1:])
		for b := range 256 {
			one := string([]byte{byte(b)})
			checkAny(t, s[:at]+one+s[at+1:])
			checkAny(t, s[:at]+one+s[at:])
		}
	}
}

// P3 and P4

func TestWhatIsHandedOverIsOnlyRead(t *testing.T) {
	behind := api.File{Path: "zz", Text: "behind"}
	all := []api.File{{Path: "a", Text: "1"}, {Path: "b", Run: true}, behind}
	was := slices.Clone(all)
	checkMake(t, all[:2], "a f 1\n1\nb x 0\n\n")
	if !slices.Equal(all, was) {
		t.Error(all)
	}
}

func TestWhatIsReadIsNewMemory(t *testing.T) {
	const s = "a f 1\n1\nb x 0\n\n"
	first, _ := Read(s)
	for i := range first {
		first[i] = api.File{Path: "changed"}
	}
	checkRead(t, s, []api.File{{Path: "a", Text: "1"}, {Path: "b", Run: true}})
}

// P1

func FuzzNothingPanicsAndPacksStay(f *testing.F) {
	for s := range packs() {
		f.Add(s, "a", true, s)
	}
	for _, s := range wrongFiles() {
		f.Add(s, "../a", false, s)
	}
	f.Fuzz(func(t *testing.T, s, p string, run bool, text string) {
		checkAny(t, s)
		l := []api.File{{Path: p, Run: run, Text: text}}
		made, err := Make(l)
		n, bad := Sum(l)
		want := tree.Check(l)
		if told(err) != told(want) || told(bad) != told(want) || n != sum.Of(made) {
			t.Errorf("%q: %s, %s, want %s", p, told(err), told(bad), told(want))
		}
		if want == nil {
			checkRound(t, l)
		} else if made != "" {
			t.Errorf("%q: %.80q with %v", p, made, err)
		}
	})
}
