package fetch

import (
	"fmt"
	"slices"
	"strings"
	"testing"

	"chandlery/api"
	"chandlery/held"
	"chandlery/net"
	"chandlery/pack"
	"chandlery/plain"
	"chandlery/press"
	"chandlery/sum"
	"chandlery/tree"
)

// Two texts of files that no sum tells apart in a path; as file `a` alone, both have the sum of no file at all.
const (
	twin  = "aanmgykj"
	other = "aexcifku"
)

// greatest of all sums.
const greatest = 1000000006

// one file.
func one(p, text string) []api.File { return []api.File{{Path: p, Text: text}} }

// packed is the text of a tree.
func packed(t *testing.T, l []api.File) string {
	t.Helper()
	s, err := pack.Make(l)
	if err != nil {
		t.Fatalf("%s is no tree: %v", brief(l), err)
	}
	return s
}

// sumOf a tree, by the chapter of packs.
func sumOf(t *testing.T, l []api.File) int {
	t.Helper()
	return sum.Of(packed(t, l))
}

// wanted plain, from a link: file `a` of a text.
func wanted(t *testing.T, url, text string) api.Want {
	t.Helper()
	return api.Want{Name: "a", URL: url, Kind: "plain", Sum: sumOf(t, one("a", text))}
}

// rule of mirrors, in words: the first is From.
func rule(s string) api.Rule {
	words := strings.Fields(s)
	return api.Rule{From: words[0], To: words[1:]}
}

// web with texts at links: a link, its text, a link, its text, and so on.
func web(t *testing.T, l ...string) *net.Net {
	t.Helper()
	n := net.New()
	for i := 0; i < len(l); i += 2 {
		must(t, n.Put(l[i], l[i+1]))
	}
	return n
}

func must(t *testing.T, err error) {
	t.Helper()
	if err != nil {
		t.Fatal(err)
	}
}

// holding trees, one behind the other.
func holding(t *testing.T, most int, trees ...[]api.File) *held.Held {
	t.Helper()
	h := held.New(most)
	for _, l := range trees {
		_, err := h.Put(l)
		must(t, err)
	}
	return h
}

// brief tells the beginning of a tree: some are long.
func brief(l []api.File) string { return fmt.Sprintf("%.60s", fmt.Sprint(l)) }

// told is an error in one text: so a bare error differs from one with a place, and from another error.
func told(err error) string {
	if err == nil {
		return ""
	}
	_, at := plain.Code(err)
	return fmt.Sprintf("%T %v at %d", err, err, at)
}

// answer of a call.
type answer struct {
	l     []api.File
	lines []string
	err   error
}

func try(n *net.Net, l []api.Rule, w api.Want) answer {
	out, lines, err := Try(n, l, w)
	return answer{out, lines, err}
}

func fetch(h *held.Held, n *net.Net, l []api.Rule, w api.Want) answer {
	out, lines, err := Fetch(h, n, l, w)
	return answer{out, lines, err}
}

func (a answer) String() string {
	return fmt.Sprintf("%s %q %s", brief(a.l), a.lines, told(a.err))
}

// checkAnswer holds all that is answered.
func checkAnswer(t *testing.T, got, want answer) {
	t.Helper()
	if !tree.Same(got.l, want.l) || !slices.Equal(got.lines, want.lines) || told(got.err) != told(want.err) {
		t.Errorf("%v, want %v", got, want)
	}
}

// checkCame holds what came by these lines, by Try and by Fetch: so many calls as lines, and held then, last.
func checkCame(t *testing.T, n *net.Net, l []api.Rule, w api.Want, tree []api.File, lines ...string) {
	t.Helper()
	h := holding(t, 3, one("z", "ahead"))
	ahead := h.Sums()[0]
	calls := n.Calls()
	checkAnswer(t, try(n, l, w), answer{tree, lines, nil})
	checkAnswer(t, fetch(h, n, l, w), answer{tree, lines, nil})
	if n.Calls() != calls+2*len(lines) {
		t.Errorf("%d calls for %q, twice", n.Calls()-calls, lines)
	}
	if !slices.Equal(h.Sums(), []int{ahead, w.Sum}) {
		t.Errorf("holds %v, want %d behind %d", h.Sums(), w.Sum, ahead)
	}
}

// checkNone holds that nothing comes, by these lines, by Try and by Fetch, and that what is held stays.
func checkNone(t *testing.T, n *net.Net, l []api.Rule, w api.Want, err error, lines ...string) {
	t.Helper()
	h := holding(t, 1, one("z", "ahead"))
	was := h.Copy()
	calls := n.Calls()
	checkAnswer(t, try(n, l, w), answer{nil, lines, err})
	checkAnswer(t, fetch(h, n, l, w), answer{nil, lines, err})
	if n.Calls() != calls+2*len(lines) {
		t.Errorf("%d calls for %q, twice", n.Calls()-calls, lines)
	}
	if !held.Same(h, was) {
		t.Errorf("holds %v, held %v", h.Sums(), was.Sums())
	}
}

func TestTwinsAreTwins(t *testing.T) {
	if sumOf(t, one("b", twin)) != sumOf(t, one("b", other)) || sumOf(t, one("a", twin)) != 0 || sumOf(t, one("a", other)) != 0 || sumOf(t, nil) != 0 {
		t.Fatal("the texts of these tests have sums of their own")
	}
}

// P110 (and P111, where nothing is held)

func TestALinkWithoutMirrors(t *testing.T) {
	n := web(t, "http://h/x", "hi", "ftp://h/x", "by another kind")
	for _, l := range [][]api.Rule{nil, {}, {rule("http://i/ http://h/")}, {rule("http://h/")}, {rule("ftp://h/ http://m/"), rule("http://h/y http://m/")}} {
		checkCame(t, n, l, wanted(t, "http://h/x", "hi"), one("a", "hi"), "http://h/x ok")
		checkNone(t, n, l, wanted(t, "http://h/x", "ho"), api.ErrSum, "http://h/x chandlery: sum")
		checkNone(t, n, l, wanted(t, "http://h/z", "hi"), api.ErrNone, "http://h/z chandlery: none")
	}
}

func TestTheFirstRightWayIsTaken(t *testing.T) {
	l := []api.Rule{rule("http://h/ http://m/ ftp://m/d/ file://l/")}
	w := wanted(t, "http://h/x", "hi")
	n := web(t, "http://h/x", "hi")
	checkCame(t, n, l, w, one("a", "hi"), "http://m/x chandlery: none", "ftp://m/d/x chandlery: none", "file://l/x chandlery: none", "http://h/x ok")
	must(t, n.Put("file://l/x", "hi"))
	checkCame(t, n, l, w, one("a", "hi"), "http://m/x chandlery: none", "ftp://m/d/x chandlery: none", "file://l/x ok")
	must(t, n.Put("ftp://m/d/x", "ho"))
	checkCame(t, n, l, w, one("a", "hi"), "http://m/x chandlery: none", "ftp://m/d/x chandlery: sum", "file://l/x ok")
	must(t, n.Host("m", false))
	checkCame(t, n, l, w, one("a", "hi"), "http://m/x chandlery: off", "ftp://m/d/x chandlery: off", "file://l/x ok")
	must(t, n.Host("m", true))
	must(t, n.Put("http://m/x", "hi"))
	checkCame(t, n, l, w, one("a", "hi"), "http://m/x ok")
	must(t, n.Cut("http://m/x", 1))
	checkCame(t, n, l, w, one("a", "hi"), "http://m/x chandlery: sum", "ftp://m/d/x chandlery: sum", "file://l/x ok")
}

func TestTheRightOneMayStandAtEachWay(t *testing.T) {
	r := api.Rule{From: "http://h/"}
	for i := range api.MaxWays {
		r.To = append(r.To, fmt.Sprintf("http://m%d/", i))
	}
	hosts := append(slices.Clone(r.To), r.From)
	w := wanted(t, "http://h/x", "hi")
	for at := range hosts {
		n := web(t, hosts[at]+"x", "hi")
		var lines []string
		for _, host := range hosts[:at] {
			lines = append(lines, host+"x chandlery: none")
		}
		checkCame(t, n, []api.Rule{r}, w, one("a", "hi"), append(lines, hosts[at]+"x ok")...)
		// With others behind it that are as right.
		for _, host := range hosts[at:] {
			must(t, n.Put(host+"x", "hi"))
		}
		checkCame(t, n, []api.Rule{r}, w, one("a", "hi"), append(lines, hosts[at]+"x ok")...)
	}
	var lines []string
	for _, host := range hosts {
		lines = append(lines, host+"x chandlery: none")
	}
	checkNone(t, net.New(), []api.Rule{r}, w, api.ErrNone, lines...)
}

func TestTheLastErrorIsTold(t *testing.T) {
	l := []api.Rule{rule("http://h/ http://none/ http://off/ http://sum/ http://bound/")}
	w := wanted(t, "http://h/x", "hi")
	n := web(t, "http://off/x", "hi", "http://sum/x", "ho", "http://bound/x", strings.Repeat("x", api.MaxText+1))
	must(t, n.Host("off", false))
	lines := []string{"http://none/x chandlery: none", "http://off/x chandlery: off", "http://sum/x chandlery: sum", "http://bound/x chandlery: bound"}
	checkNone(t, n, l, w, api.ErrNone, append(slices.Clone(lines), "http://h/x chandlery: none")...)
	must(t, n.Put("http://h/x", "he"))
	checkNone(t, n, l, w, api.ErrSum, append(slices.Clone(lines), "http://h/x chandlery: sum")...)
	must(t, n.Put("http://h/x", strings.Repeat("x", api.MaxSource)))
	checkNone(t, n, l, w, api.ErrBound, append(slices.Clone(lines), "http://h/x chandlery: bound")...)
	must(t, n.Host("h", false))
	checkNone(t, n, l, w, api.ErrOff, append(slices.Clone(lines), "http://h/x chandlery: off")...)
	// Here, too, if the link itself is not the last way.
	l[0].To = slices.Insert(l[0].To, 1, "http://h/")
	checkNone(t, n, l, w, api.ErrBound, lines[0], "http://h/x chandlery: off", lines[1], lines[2], lines[3])
}

func TestWaysAreThoseOfMirrors(t *testing.T) {
	n := web(t, "http://h/d/x", "hi")
	w := wanted(t, "http://h/d/x", "hi")
	// The longest From, the first of these.
	l := []api.Rule{rule("http://h/ http://m1/"), rule("http://h/d/ http://m2/"), rule("http://h/d/ http://m3/"), rule("http://h/d/y http://m4/")}
	checkCame(t, n, l, w, one("a", "hi"), "http://m2/x chandlery: none", "http://h/d/x ok")
	// What would be no link is gone past, without a line.
	l = []api.Rule{rule("http://h/d http://m1/ http://m2/a/b/c/d/e/f/ http://m3/d http://m4/d/d")}
	checkCame(t, n, l, w, one("a", "hi"), "http://m3/d/x chandlery: none", "http://m4/d/d/x chandlery: none", "http://h/d/x ok")
	// Each once.
	l = []api.Rule{rule("http://h/ http://m1/ http://m2/ http://m1/ http://h/ http://m3/")}
	checkCame(t, n, l, w, one("a", "hi"), "http://m1/d/x chandlery: none", "http://m2/d/x chandlery: none", "http://h/d/x ok")
	must(t, n.Host("h", false))
	checkNone(t, n, l, w, api.ErrNone, "http://m1/d/x chandlery: none", "http://m2/d/x chandlery: none", "http://h/d/x chandlery: off", "http://m3/d/x chandlery: none")
}

func TestARuleDoesNotChangeWhatIsTaken(t *testing.T) {
	// As many rules as there may be, and none of them goes for it.
	var l []api.Rule
	for i := range api.MaxRules {
		l = append(l, rule(fmt.Sprintf("http://h%d/ http://m/", i)))
	}
	checkCame(t, web(t, "http://h/x", "hi", "http://m/x", "hi"), l, wanted(t, "http://h/x", "hi"), one("a", "hi"), "http://h/x ok")
}

// source is a text that comes, what of it is wanted, and the tree in it, or the error.
type source struct {
	kind  string
	strip int
	text  string
	l     []api.File
	err   error
}

func rights(t *testing.T) []source {
	l := []api.File{{Path: "d/b", Run: true, Text: "hi"}, {Path: "d/e/c", Text: "a:\n\xff"}}
	bare := []api.File{{Path: "b", Run: true, Text: "hi"}, {Path: "e/c", Text: "a:\n\xff"}}
	full := []api.File{{Path: "a/b/c/d/e/f", Text: strings.Repeat("x", api.MaxText)}}
	s := packed(t, l)
	return []source{
		{"plain", 0, "", one("a", ""), nil},
		{"plain", 0, s, one("a", s), nil},
		{"plain", 0, strings.Repeat("x", api.MaxText), one("a", strings.Repeat("x", api.MaxText)), nil},
		{"pack", 0, "", nil, nil},
		{"pack", api.MaxParts, "", nil, nil},
		{"pack", 0, s, l, nil},
		{"pack", 1, s, bare, nil},
		{"pack", api.MaxParts - 1, packed(t, full), one("f", full[0].Text), nil},
		{"press", 0, "", nil, nil},
		{"press", 0, press.Press(s), l, nil},
		{"press", 1, press.Press(s), bare, nil},
		{"press", 5, press.Press(packed(t, full)), one("f", full[0].Text), nil},
	}
}

func wrongs() []source {
	many := ""
	for i := range api.MaxFiles + 1 {
		many += fmt.Sprintf("%02d f 0\n\n", i)
	}
	large := "a f 4000\n" + strings.Repeat("x", 4000) + "\n"
	return []source{
		{"plain", 0, strings.Repeat("x", api.MaxText+1), nil, api.ErrBound},
		{"plain", 0, "hi", nil, api.ErrSum},
		{"pack", 0, "hi", nil, api.ErrText},
		{"pack", 0, "b f 2\nhi", nil, api.ErrText},
		{"pack", 0, "b f 2\nhi\nc", nil, api.ErrText},
		{"pack", 0, "../b f 2\nhi\n", nil, api.ErrName},
		{"pack", 0, "a/b/c/d/e/f/g f 0\n\n", nil, api.ErrFull},
		{"pack", 0, "b f 4001\n" + strings.Repeat("x", 4001) + "\n", nil, api.ErrBound},
		{"pack", 0, "b f 0\n\na f 0\n\n", nil, api.ErrOrder},
		{"pack", 0, "a f 0\n\na/b f 0\n\n", nil, api.ErrClash},
		{"pack", 0, many, nil, api.ErrFull},
		{"pack", 0, large + "b" + large[1:] + "c" + large[1:] + "d f 1\nx\n", nil, api.ErrBound},
		{"pack", 0, "b f 2\nhi\n", nil, api.ErrSum},
		{"pack", 1, "b f 2\nhi\n", nil, api.ErrShape},
		{"pack", 1, "b/x f 2\nhi\nc f 2\nhi\n", nil, api.ErrShape},
		{"pack", 1, "b/x f 2\nhi\nc/x f 2\nhi\n", nil, api.ErrExist},
		{"pack", 1, "b/x f 2\nhi\nc/x/y f 2\nhi\n", nil, api.ErrClash},
		{"press", 0, "b f 2\nhi\n", nil, api.ErrText},
		{"press", 0, "1:b1", nil, api.ErrText},
		{"press", 0, "2:b", nil, api.ErrText},
		{"press", 0, "999999999:b", nil, api.ErrFull},
		{"press", 0, "20001:b", nil, api.ErrFull},
		{"press", 0, press.Press("b f 0\n\na f 0\n\n"), nil, api.ErrOrder},
		{"press", 2, press.Press("a/b f 0\n\n"), nil, api.ErrShape},
		{"press", 1, press.Press("a/b f 0\n\n"), nil, api.ErrSum},
	}
}

// of is what is wanted of a source.
func (s source) of(n int) api.Want {
	return api.Want{Name: "a", URL: "http://h/x", Kind: s.kind, Strip: s.strip, Sum: n}
}

func TestWhatComesIsOpenedByItsKind(t *testing.T) {
	for _, s := range rights(t) {
		w := s.of(sumOf(t, s.l))
		checkCame(t, web(t, w.URL, s.text), nil, w, s.l, "http://h/x ok")
		checkNone(t, web(t, w.URL, s.text), nil, s.of((w.Sum+1)%(greatest+1)), api.ErrSum, "http://h/x chandlery: sum")
		// By its name, too.
		if s.kind == "plain" {
			w.Name = "b"
			checkNone(t, web(t, w.URL, s.text), nil, w, api.ErrSum, "http://h/x chandlery: sum")
		}
	}
}

func TestEachErrorHasItsLine(t *testing.T) {
	l := []api.Rule{rule("http://h/ http://m/")}
	for _, s := range wrongs() {
		w := s.of(7)
		line := " " + s.err.Error()
		checkNone(t, web(t, "http://h/x", s.text), nil, w, s.err, "http://h/x"+line)
		checkNone(t, web(t, "http://h/x", s.text), l, w, s.err, "http://m/x chandlery: none", "http://h/x"+line)
		checkNone(t, web(t, "http://m/x", s.text), l, w, api.ErrNone, "http://m/x"+line, "http://h/x chandlery: none")
		// None of them keeps what is right from coming.
		for _, r := range rights(t) {
			if r.kind == s.kind && r.strip == s.strip {
				w.Sum = sumOf(t, r.l)
				checkCame(t, web(t, "http://m/x", s.text, "http://h/x", r.text), l, w, r.l, "http://m/x"+line, "http://h/x ok")
			}
		}
	}
}

func TestWhatIsCutMayBeWhatIsWanted(t *testing.T) {
	n := web(t, "http://h/x", "hello")
	must(t, n.Cut("http://h/x", 2))
	checkNone(t, n, nil, wanted(t, "http://h/x", "hello"), api.ErrSum, "http://h/x chandlery: sum")
	checkCame(t, n, nil, wanted(t, "http://h/x", "he"), one("a", "he"), "http://h/x ok")
}

func TestOfOneSumTheFirstWayIsTaken(t *testing.T) {
	l := []api.Rule{rule("http://h/ http://m/")}
	w := wanted(t, "http://h/x", "")
	w.Name, w.Sum = "b", sumOf(t, one("b", twin))
	checkCame(t, web(t, "http://m/x", twin, "http://h/x", other), l, w, one("b", twin), "http://m/x ok")
	checkCame(t, web(t, "http://m/x", other, "http://h/x", twin), l, w, one("b", other), "http://m/x ok")
}

// call is a wrong one, and what is told of it.
type call struct {
	h   *held.Held
	n   *net.Net
	l   []api.Rule
	w   api.Want
	err error
}

func faultAt(at int, err error) error { return &api.Fault{At: at, Err: err} }

// wrongRules are told as mirrors tell them.
func wrongRules() map[error][]api.Rule {
	ways := strings.Repeat(" http://m/", api.MaxWays+1)
	return map[error][]api.Rule{
		api.ErrFull:                  make([]api.Rule, api.MaxRules+1),
		faultAt(0, api.ErrText):      {{}},
		faultAt(1, api.ErrText):      {rule("http://h/"), rule("http:/h/")},
		faultAt(0, api.ErrKind):      {rule("zip://h/"), {}},
		faultAt(0, api.ErrName):      {rule("http://H/")},
		faultAt(2, api.ErrFull):      {rule("http://h/"), rule("http://h/"), rule("http://h/" + ways)},
		faultAt(1, api.ErrName):      {rule("http://h/"), rule("http://h/ http://m/ http://../")},
		faultAt(3, api.ErrKind):      {rule("http://h/"), rule("http://h/"), rule("http://h/"), rule("http://i/ http://m/ m://m/")},
		&api.Fault{Err: api.ErrFull}: {rule("http://h/a/b/c/d/e/f/g")},
	}
}

// wrongWants are told as what is wanted tells them: each is wrong in one field.
func wrongWants() map[string]error {
	return map[string]error{
		" http://h/x plain 0 5":               api.ErrName,
		"A http://h/x plain 0 5":              api.ErrName,
		"a/b http://h/x plain 0 5":            api.ErrName,
		"..  plain 0 5":                       api.ErrName,
		"a  plain 0 5":                        api.ErrText,
		"a http://h plain 0 5":                api.ErrText,
		"a zip://h/x plain 0 5":               api.ErrKind,
		"a http://H/x plain 0 5":              api.ErrName,
		"a http://h/ plain 0 5":               api.ErrName,
		"a http://h/a/b/c/d/e/f/g plain 0 5":  api.ErrFull,
		"a http://h/x  0 5":                   api.ErrKind,
		"a http://h/x Plain 0 5":              api.ErrKind,
		"a http://h/x pack -1 5":              api.ErrBound,
		"a http://h/x press 7 5":              api.ErrBound,
		"a http://h/x plain -1 5":             api.ErrBound,
		"a http://h/x plain 1 5":              api.ErrShape,
		"a http://h/x plain 0 -1":             api.ErrBound,
		"a http://h/x pack 6 1000000007":      api.ErrBound,
		"a http://h/x press 0 -9223372036854": api.ErrBound,
	}
}

// inWords, one blank between, is what is wanted; they may be wrong or empty.
func inWords(t *testing.T, s string) api.Want {
	t.Helper()
	words := strings.Split(s, " ")
	w := api.Want{Name: words[0], URL: words[1], Kind: words[2]}
	_, err := fmt.Sscan(words[3]+" "+words[4], &w.Strip, &w.Sum)
	must(t, err)
	return w
}

// checkWrong holds what is told of a wrong call, and that it does nothing. Where h is what is wrong, Try has nothing to tell.
func checkWrong(t *testing.T, c call) {
	t.Helper()
	calls, was := 0, c.h
	if c.n != nil {
		calls = c.n.Calls()
	}
	if c.h != nil {
		was = c.h.Copy()
		checkAnswer(t, try(c.n, c.l, c.w), answer{err: c.err})
	}
	checkAnswer(t, fetch(c.h, c.n, c.l, c.w), answer{err: c.err})
	if c.n != nil && c.n.Calls() != calls {
		t.Errorf("%v: %d calls", c.err, c.n.Calls()-calls)
	}
	if !held.Same(c.h, was) {
		t.Errorf("%v: holds %v, held %v", c.err, c.h.Sums(), was.Sums())
	}
}

func TestWrongCalls(t *testing.T) {
	n := web(t, "http://h/x", "hi")
	l, w := []api.Rule{rule("http://h/ http://m/")}, wanted(t, "http://h/x", "hi")
	// Whatever is held: also what is wanted, and what could come in its place.
	for _, h := range []*held.Held{held.New(0), held.New(3), holding(t, 3, one("a", "hi"), nil)} {
		checkWrong(t, call{h, nil, l, w, api.ErrShape})
		for err, bad := range wrongRules() {
			checkWrong(t, call{h, n, bad, w, err})
		}
		for bad, err := range wrongWants() {
			checkWrong(t, call{h, n, l, inWords(t, bad), err})
			checkWrong(t, call{h, n, nil, inWords(t, bad), err})
		}
	}
	checkWrong(t, call{nil, n, l, w, api.ErrShape})
	checkWrong(t, call{nil, nil, nil, w, api.ErrShape})
	checkAnswer(t, try(nil, nil, w), answer{err: api.ErrShape})
}

func TestWrongCallsTellTheFirstError(t *testing.T) {
	n := web(t, "http://h/x", "hi")
	l, w := []api.Rule{rule("http://h/ http://m/")}, wanted(t, "http://h/x", "hi")
	h := holding(t, 3, one("a", "hi"))
	for err, bad := range wrongRules() {
		for worse := range wrongWants() {
			checkWrong(t, call{h, n, bad, inWords(t, worse), err})
			checkWrong(t, call{h, nil, bad, inWords(t, worse), api.ErrShape})
			checkWrong(t, call{nil, n, bad, inWords(t, worse), api.ErrShape})
			checkWrong(t, call{nil, nil, bad, inWords(t, worse), api.ErrShape})
		}
		checkWrong(t, call{h, nil, bad, w, api.ErrShape})
		checkWrong(t, call{nil, n, bad, w, api.ErrShape})
	}
	for bad := range wrongWants() {
		checkWrong(t, call{h, nil, l, inWords(t, bad), api.ErrShape})
		checkWrong(t, call{nil, n, l, inWords(t, bad), api.ErrShape})
	}
}

func TestRulesAreCheckedWhereNoneGoesForIt(t *testing.T) {
	n := web(t, "http://h/x", "hi")
	checkWrong(t, call{held.New(3), n, []api.Rule{rule("http://h/"), rule("http://i/ x")}, wanted(t, "http://h/x", "hi"), faultAt(1, api.ErrText)})
}

// P1: neither is one that any call gave.

func TestNetsAndHeldsOfNothing(t *testing.T) {
	w := wanted(t, "http://h/x", "hi")
	none := answer{nil, []string{"http://h/x chandlery: none"}, api.ErrNone}
	checkAnswer(t, try(&net.Net{}, nil, w), none)
	checkAnswer(t, fetch(&held.Held{}, &net.Net{}, nil, w), none)
	checkAnswer(t, fetch(&held.Held{}, web(t, "http://h/x", "hi"), nil, w), answer{one("a", "hi"), []string{"http://h/x ok"}, nil})
}

// P111

func TestWhatIsHeldIsNotFetched(t *testing.T) {
	l := []api.Rule{rule("http://h/ http://m/")}
	for _, s := range rights(t) {
		w := s.of(sumOf(t, s.l))
		h := holding(t, 3, one("y", ""), s.l, one("z", ""))
		was := h.Copy()
		// Whatever the net does.
		off := web(t, w.URL, s.text)
		must(t, off.Host("h", false))
		for _, n := range []*net.Net{net.New(), web(t, w.URL, s.text), web(t, w.URL, "another"), off} {
			for range 2 {
				checkAnswer(t, fetch(h, n, l, w), answer{s.l, []string{"held"}, nil})
			}
			if n.Calls() != 0 || !held.Same(h, was) {
				t.Errorf("%d calls, holds %v, held %v", n.Calls(), h.Sums(), was.Sums())
			}
		}
	}
}

func TestWhatWasFetchedIsHeld(t *testing.T) {
	l := []api.Rule{rule("http://h/ http://m/")}
	w := wanted(t, "http://h/x", "hi")
	n := web(t, w.URL, "hi")
	h := held.New(1)
	checkAnswer(t, fetch(h, n, l, w), answer{one("a", "hi"), []string{"http://m/x chandlery: none", "http://h/x ok"}, nil})
	for range 3 {
		checkAnswer(t, fetch(h, n, l, w), answer{one("a", "hi"), []string{"held"}, nil})
	}
	if n.Calls() != 2 {
		t.Errorf("%d calls", n.Calls())
	}
	// Try goes by no held.
	checkAnswer(t, try(n, l, w), answer{one("a", "hi"), []string{"http://m/x chandlery: none", "http://h/x ok"}, nil})
	// What is held no more is fetched again.
	must(t, h.Drop(w.Sum))
	checkAnswer(t, fetch(h, n, nil, w), answer{one("a", "hi"), []string{"http://h/x ok"}, nil})
	checkAnswer(t, fetch(h, n, nil, w), answer{one("a", "hi"), []string{"held"}, nil})
}

func TestWhatIsHeldGoesByItsSum(t *testing.T) {
	h := holding(t, 5, one("b", twin), one("a", "hi"))
	n := net.New()
	isHeld := []string{"held"}
	// Not by its name, its link, its kind, or how much of its paths goes.
	for _, text := range []string{"a http://h/x plain 0 5", "z ftp://i/y/z plain 0 5", "lib file://h/x pack 0 5", "lib file://h/x pack 6 5", "lib http://h/x press 3 5"} {
		w := inWords(t, text)
		w.Sum = sumOf(t, one("a", "hi"))
		checkAnswer(t, fetch(h, n, nil, w), answer{one("a", "hi"), isHeld, nil})
		w.Sum = sumOf(t, one("b", other))
		checkAnswer(t, fetch(h, n, nil, w), answer{one("b", twin), isHeld, nil})
	}
	// Also the empty tree, once there is one.
	w := inWords(t, "a http://h/x pack 0 0")
	checkAnswer(t, fetch(h, n, nil, w), answer{nil, []string{"http://h/x chandlery: none"}, api.ErrNone})
	_, err := h.Put(nil)
	must(t, err)
	checkAnswer(t, fetch(h, n, nil, w), answer{nil, isHeld, nil})
	if n.Calls() != 1 {
		t.Errorf("%d calls", n.Calls())
	}
}

func TestNotHeldIsOfAnotherSum(t *testing.T) {
	h := holding(t, 5, one("a", "hi"), one("a", "ho"))
	w := wanted(t, "http://h/x", "he")
	checkAnswer(t, fetch(h, web(t, w.URL, "he"), nil, w), answer{one("a", "he"), []string{"http://h/x ok"}, nil})
	if !slices.Equal(h.Sums(), []int{sumOf(t, one("a", "hi")), sumOf(t, one("a", "ho")), w.Sum}) {
		t.Error(h.Sums())
	}
}

func TestWhatIsFetchedTakesTheRoomOfTheFirst(t *testing.T) {
	n := net.New()
	for _, most := range []int{1, 2, 3, api.MaxHeld} {
		h := held.New(most)
		var sums []int
		for i := range api.MaxHeld + 3 {
			text := fmt.Sprint(i)
			must(t, n.Put("http://h/x", text))
			w := wanted(t, "http://h/x", text)
			checkAnswer(t, fetch(h, n, nil, w), answer{one("a", text), []string{"http://h/x ok"}, nil})
			sums = append(sums, w.Sum)
			if !slices.Equal(h.Sums(), sums[max(0, len(sums)-most):]) {
				t.Errorf("holds %v, want the last %d of %v", h.Sums(), most, sums)
			}
		}
	}
}

func TestWhatHasNoRoomIsFetchedAllTheSame(t *testing.T) {
	for _, s := range rights(t) {
		for _, most := range []int{0, -1, -100} {
			w := s.of(sumOf(t, s.l))
			h, n := held.New(most), web(t, w.URL, s.text)
			for range 2 {
				checkAnswer(t, fetch(h, n, nil, w), answer{s.l, []string{"http://h/x ok"}, nil})
			}
			if len(h.Sums()) != 0 || n.Calls() != 2 {
				t.Errorf("holds %v, %d calls", h.Sums(), n.Calls())
			}
		}
	}
}

func TestOfManyWaysOneIsHeld(t *testing.T) {
	// A mirror's wrong text is not held, under its own sum either.
	h, w := held.New(5), wanted(t, "http://h/x", "hi")
	n := web(t, "http://m/x", "ho", w.URL, "hi")
	l := []api.Rule{rule("http://h/ http://m/")}
	checkAnswer(t, fetch(h, n, l, w), answer{one("a", "hi"), []string{"http://m/x chandlery: sum", "http://h/x ok"}, nil})
	if !slices.Equal(h.Sums(), []int{w.Sum}) {
		t.Errorf("holds %v, want %d", h.Sums(), w.Sum)
	}
}

// P3, P4

// scribble on all of an answer's memory.
func scribble(a answer) {
	files, lines := a.l[:cap(a.l)], a.lines[:cap(a.lines)]
	for i := range files {
		files[i] = api.File{Path: "mine", Run: true, Text: "mine"}
	}
	for i := range lines {
		lines[i] = "mine"
	}
}

func TestWhatIsAnsweredIsNewMemory(t *testing.T) {
	l := []api.Rule{rule("http://h/ http://m/")}
	for _, s := range rights(t) {
		w := s.of(sumOf(t, s.l))
		h, n := held.New(3), web(t, w.URL, s.text)
		came := answer{s.l, []string{"http://m/x chandlery: none", "http://h/x ok"}, nil}
		first := try(n, l, w)
		second := try(n, l, w)
		scribble(first)
		checkAnswer(t, second, came)
		scribble(second)
		checkAnswer(t, try(n, l, w), came)
		// What is held, too, is not what was answered when it came, or later.
		fetched := fetch(h, n, l, w)
		checkAnswer(t, fetched, came)
		scribble(fetched)
		for range 3 {
			again := fetch(h, n, l, w)
			checkAnswer(t, again, answer{s.l, []string{"held"}, nil})
			scribble(again)
		}
	}
	w := wanted(t, "http://h/x", "hi")
	none := answer{nil, []string{"http://m/x chandlery: none", "http://h/x chandlery: none"}, api.ErrNone}
	for range 3 {
		got := try(net.New(), l, w)
		checkAnswer(t, got, none)
		scribble(got)
	}
}

func TestRulesAreOnlyRead(t *testing.T) {
	to := []string{"http://m1/", "http://m2/", "behind"}
	l := []api.Rule{{From: "http://i/"}, {From: "http://h/", To: to[:2]}, {From: "behind"}}
	toWas, was := slices.Clone(to), fmt.Sprint(l)
	w := wanted(t, "http://h/x", "hi")
	for _, n := range []*net.Net{web(t, "http://h/x", "hi"), web(t, "http://m2/x", "hi"), net.New()} {
		scribble(try(n, l[:2], w))
		scribble(fetch(held.New(3), n, l[:2], w))
	}
	if !slices.Equal(to, toWas) || fmt.Sprint(l) != was {
		t.Errorf("%v, was %v", l, was)
	}
}

func TestTheNetStaysAsItWas(t *testing.T) {
	// A call that answers an error, too: only how often it was asked is of it.
	n := web(t, "http://h/x", "hello", "http://m/x", "ho")
	must(t, n.Cut("http://h/x", 2))
	must(t, n.Host("m", false))
	l := []api.Rule{rule("http://h/ http://m/")}
	for range 3 {
		checkNone(t, n, l, wanted(t, "http://h/x", "hi"), api.ErrSum, "http://m/x chandlery: off", "http://h/x chandlery: sum")
		checkCame(t, n, l, wanted(t, "http://h/x", "he"), one("a", "he"), "http://m/x chandlery: off", "http://h/x ok")
	}
	if s, err := n.Get("http://h/x"); s != "he" || err != nil {
		t.Error(s, err)
	}
	if s, err := n.Get("http://m/x"); s != "" || err != api.ErrOff {
		t.Error(s, err)
	}
}

// P110 and P111 once more, by a second working-out: all that each of four ways may do.

// doing is what is done at a way, and the error of it (nil: what comes is right).
type doing struct {
	put  string
	off  bool
	cut  int // bytes less
	none bool
	err  error
}

func doings() []doing {
	return []doing{
		{put: "right"},
		{none: true, err: api.ErrNone},
		{put: "right", off: true, err: api.ErrOff},
		{none: true, off: true, err: api.ErrOff},
		{put: "right", cut: 1, err: api.ErrSum},
		{put: "rightly", cut: 2},
		{put: "", err: api.ErrSum},
		{put: strings.Repeat("right", 1000), err: api.ErrBound},
	}
}

// do it on a net.
func (d doing) do(t *testing.T, n *net.Net, host string) {
	t.Helper()
	url := "http://" + host + "/x"
	if !d.none {
		must(t, n.Put(url, d.put))
		must(t, n.Cut(url, len(d.put)-d.cut))
	}
	must(t, n.Host(host, !d.off))
}

// worked out: what is answered where these are done, way by way.
func worked(hosts []string, done []doing) answer {
	var out answer
	for i, d := range done {
		line := "http://" + hosts[i] + "/x "
		if d.err == nil {
			return answer{one("a", "right"), append(out.lines, line+"ok"), nil}
		}
		out = answer{nil, append(out.lines, line+d.err.Error()), d.err}
	}
	return out
}

func TestAllSmallNets(t *testing.T) {
	l := []api.Rule{rule("http://h/ http://m1/ http://m2/ http://m3/")}
	hosts := []string{"m1", "m2", "m3", "h"}
	w := wanted(t, "http://h/x", "right")
	ahead := one("z", "ahead")
	var each func(done []doing)
	each = func(done []doing) {
		if len(done) < len(hosts) {
			for _, d := range doings() {
				each(append(slices.Clone(done), d))
			}
			return
		}
		n := net.New()
		for i, d := range done {
			d.do(t, n, hosts[i])
		}
		want := worked(hosts, done)
		checkAnswer(t, try(n, l, w), want)
		for most := range 3 {
			h := held.New(most)
			h.Put(ahead)
			was := h.Copy()
			calls := n.Calls()
			checkAnswer(t, fetch(h, n, l, w), want)
			if n.Calls() != calls+len(want.lines) {
				t.Fatalf("%d calls, want %d", n.Calls()-calls, len(want.lines))
			}
			if want.err == nil {
				was.Put(want.l)
			}
			if !held.Same(h, was) {
				t.Fatalf("holds %v, want %v", h.Sums(), was.Sums())
			}
		}
	}
	each(nil)
}

// P112

// texts that mirrors have: right ones, wrong ones, and some that only look right.
func texts(t *testing.T) []string {
	t.Helper()
	out := []string{"", "a", twin, other, "999999999:b", strings.Repeat("x", api.MaxSource)}
	for _, s := range rights(t) {
		out = append(out, s.text)
	}
	for _, s := range wrongs() {
		out = append(out, s.text)
	}
	return append(out, packed(t, one("b", twin)), packed(t, one("b", other)), press.Press(packed(t, one("b", twin))))
}

// sums that may be asked for: of what the texts hold, however they are taken, and some of nothing.
func sums(t *testing.T) []int {
	t.Helper()
	out := []int{0, 1, 5, greatest, sumOf(t, one("b", twin))}
	for _, s := range rights(t) {
		out = append(out, sumOf(t, s.l))
	}
	for _, s := range []string{"", "a", twin, "1:a"} {
		out = append(out, sumOf(t, one("a", s)))
	}
	return out
}

// checkHasItsSum holds that what is answered has the sum that is wanted, or is told to be nothing.
func checkHasItsSum(t *testing.T, a answer, w api.Want) bool {
	t.Helper()
	if a.err != nil {
		if len(a.l) > 0 {
			t.Errorf("%v: %v", w, a)
		}
		return false
	}
	if n, err := pack.Sum(a.l); n != w.Sum || err != nil {
		t.Errorf("%v: %v: its sum is %d, %v", w, a, n, err)
	}
	return true
}

func TestWhatIsFetchedHasItsSum(t *testing.T) {
	has, asked := texts(t), sums(t)
	l := []api.Rule{rule("http://h/ http://m1/ http://m2/ http://m3/")}
	hosts := []string{"m1", "m2", "m3", "h"}
	kinds := []string{"plain", "pack", "press"}
	h, n := held.New(4), net.New()
	tried, fetched, none := 0, 0, 0
	// Mixed by short rules: steps of primes go through all of them.
	for i := range 20000 {
		url := "http://" + hosts[i*7%4] + "/x"
		s := has[i*31%len(has)]
		must(t, n.Put(url, s))
		if i%3 == 0 {
			must(t, n.Cut(url, i*13%(len(s)+1)))
		}
		must(t, n.Host(hosts[i*11%4], i%5 != 0))
		w := api.Want{Name: "a", URL: "http://h/x", Kind: kinds[i*17%3], Sum: asked[i*29%len(asked)]}
		if w.Kind != "plain" {
			w.Strip = i * 23 % 3
		}
		if checkHasItsSum(t, try(n, l, w), w) {
			tried++
		}
		got := fetch(h, n, l, w)
		if checkHasItsSum(t, got, w) {
			fetched++
		} else {
			none++
		}
		scribble(got)
		if sums := h.Sums(); i%7 == 0 && len(sums) > 0 {
			must(t, h.Drop(sums[i%len(sums)]))
		}
	}
	if tried < 500 || fetched <= tried || none < 500 {
		t.Errorf("only %d were tried, %d fetched, %d not", tried, fetched, none)
	}
}

func TestNoByteMayChange(t *testing.T) {
	// Of a plain text, a pack and a pressed one, at a mirror: what comes is from the link itself, or has the sum all the same.
	l := []api.Rule{rule("http://h/ http://m/")}
	tree := []api.File{{Path: "d/b", Run: true, Text: "hi"}, {Path: "d/c", Text: "x"}}
	s := packed(t, tree)
	for _, c := range []source{{"plain", 0, s, one("a", s), nil}, {"pack", 1, s, []api.File{{Path: "b", Run: true, Text: "hi"}, {Path: "c", Text: "x"}}, nil}, {"press", 0, press.Press(s), tree, nil}} {
		w := c.of(sumOf(t, c.l))
		n := web(t, "http://h/x", c.text)
		for at := range c.text {
			for b := range 256 {
				must(t, n.Put("http://m/x", c.text[:at]+string([]byte{byte(b)})+c.text[at+1:]))
				got := try(n, l, w)
				if !checkHasItsSum(t, got, w) {
					t.Errorf("%s, byte %d as %d: %v", c.kind, at, b, got)
				}
			}
		}
		for most := range len(c.text) {
			must(t, n.Put("http://m/x", c.text))
			must(t, n.Cut("http://m/x", most))
			got := try(n, l, w)
			if !checkHasItsSum(t, got, w) || len(got.lines) != 2 {
				t.Errorf("%s, %d bytes: %v", c.kind, most, got)
			}
		}
	}
}
