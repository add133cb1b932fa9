package net

import (
	"fmt"
	"math"
	"strings"
	"testing"

	"chandlery/api"
	"chandlery/link"
)

// The errors are held against each other by ==, not errors.Is: no call of this package tells a place, so each error is bare.

const (
	longest = "abcdefghij-9" // of MaxName bytes
	tooLong = longest + "z"
	fullest = "a/b/c/d/e/f" // of MaxParts parts
	tooMany = fullest + "/g"
	most    = 60 // texts of a net
)

func TestEdgesAreWhereTheyAreMeant(t *testing.T) {
	if len(longest) != api.MaxName || strings.Count(fullest, "/")+1 != api.MaxParts {
		t.Fatal("the texts of these tests do not lie at the bounds")
	}
}

// check holds what a call answered.
func check(t *testing.T, what string, got, want error) {
	t.Helper()
	if got != want {
		t.Errorf("%s: %v, want %v", what, got, want)
	}
}

func checkPut(t *testing.T, n *Net, url, s string, want error) {
	t.Helper()
	check(t, fmt.Sprintf("Put %q %.20q of %d", url, s, len(s)), n.Put(url, s), want)
}

func checkHost(t *testing.T, n *Net, host string, on bool, want error) {
	t.Helper()
	check(t, fmt.Sprintf("Host %q %v", host, on), n.Host(host, on), want)
}

func checkCut(t *testing.T, n *Net, url string, k int, want error) {
	t.Helper()
	check(t, fmt.Sprintf("Cut %q %d", url, k), n.Cut(url, k), want)
}

// checkGet holds what comes, and that asking again brings the same.
func checkGet(t *testing.T, n *Net, url, want string) {
	t.Helper()
	for range 2 {
		if s, err := n.Get(url); s != want || err != nil {
			t.Errorf("Get %q: %.20q of %d, %v, want %.20q of %d", url, s, len(s), err, want, len(want))
		}
	}
}

// checkNothing holds that nothing comes, and why.
func checkNothing(t *testing.T, n *Net, url string, want error) {
	t.Helper()
	for range 2 {
		if s, err := n.Get(url); s != "" || err != want {
			t.Errorf("Get %q: %.20q of %d, %v, want %v", url, s, len(s), err, want)
		}
	}
}

func checkCalls(t *testing.T, n *Net, want int) {
	t.Helper()
	if got := n.Calls(); got != want {
		t.Errorf("%d calls, want %d", got, want)
	}
}

// with texts at links, in pairs.
func with(t *testing.T, pairs ...string) *Net {
	t.Helper()
	n := New()
	for i := 0; i < len(pairs); i += 2 {
		checkPut(t, n, pairs[i], pairs[i+1], nil)
	}
	return n
}

// many links, of all kinds, hosts and depths.
func many(count int) []string {
	var out []string
	for i := range count {
		kind := []string{"http", "ftp", "file"}[i%3]
		out = append(out, fmt.Sprintf("%s://h%d/%sn%d", kind, i%7, strings.Repeat("x/", i%5), i))
	}
	return out
}

// noLinks, and what link.Check tells of each.
func noLinks() map[string]error {
	return map[string]error{
		"":                         api.ErrText,
		"x":                        api.ErrText,
		"h":                        api.ErrText,
		"http://h":                 api.ErrText,
		"http:/h/x":                api.ErrText,
		"zip://h/x":                api.ErrKind,
		"HTTP://h/x":               api.ErrKind,
		" http://h/x":              api.ErrKind,
		"http:///x":                api.ErrName,
		"http://H/x":               api.ErrName,
		"http://h:80/x":            api.ErrName,
		"http://" + tooLong + "/x": api.ErrName,
		"http://h/":                api.ErrName,
		"http://h/x/":              api.ErrName,
		"http://h//x":              api.ErrName,
		"http://h/./x":             api.ErrName,
		"http://h/../x":            api.ErrName,
		"http://h/x ":              api.ErrName,
		"http://h/\xff":            api.ErrName,
		"http://h/" + tooLong:      api.ErrName,
		"http://h/" + tooMany:      api.ErrFull,
	}
}

// noParts are no hosts, either.
func noParts() []string {
	return []string{"", ".", "..", "/", "h/", "/h", "h/x", "a/b", fullest, tooMany, "H", "hH", "h ", " h", "h\n", "h:80", "h\x00", "é", "\xff", "http://h/x", "http://h/", tooLong}
}

// P90

func TestNothingIsThereAtFirst(t *testing.T) {
	n := New()
	checkCalls(t, n, 0)
	for _, url := range many(20) {
		checkNothing(t, n, url, api.ErrNone)
		checkCut(t, n, url, 0, api.ErrNone)
	}
}

func TestWhatIsPutComes(t *testing.T) {
	var all []byte
	for b := range 256 {
		all = append(all, byte(b))
	}
	n := New()
	for _, url := range []string{"http://h/x", "ftp://h/x", "file://h/x", "http://" + longest + "/" + fullest, "file://.../...", "ftp://-/" + longest} {
		for _, s := range []string{"a", "hello", "a\nb\r\n", "\x00", "\xff\xfe", "é", string(all), "http://h/x"} {
			checkPut(t, n, url, s, nil)
			checkGet(t, n, url, s)
		}
	}
}

func TestAnEmptyTextIsThere(t *testing.T) {
	n := with(t, "http://h/x", "")
	checkGet(t, n, "http://h/x", "")
	checkCut(t, n, "http://h/x", 0, nil)
	checkCut(t, n, "http://h/x", 5, nil)
	checkCut(t, n, "http://h/x", -1, api.ErrBound)
	checkGet(t, n, "http://h/x", "")
	checkPut(t, n, "http://h/x", "more", nil)
	checkGet(t, n, "http://h/x", "more")
	checkPut(t, n, "http://h/x", "", nil)
	checkGet(t, n, "http://h/x", "")
}

func TestEachLinkHasItsOwnText(t *testing.T) {
	l := []string{"http://h/x", "ftp://h/x", "file://h/x", "http://i/x", "http://h/y", "http://h/x/y", "http://h/x/x", "http://h/xy", "http://x/h", "http://hx/x", "http://h.x/x"}
	n := New()
	for i, url := range l {
		checkNothing(t, n, url, api.ErrNone)
		checkPut(t, n, url, fmt.Sprint("text ", i), nil)
	}
	for i, url := range l {
		checkGet(t, n, url, fmt.Sprint("text ", i))
	}
	checkCut(t, n, "ftp://h/x", 2, nil)
	checkPut(t, n, "http://h/x/y", "other", nil)
	for i, url := range l {
		want := fmt.Sprint("text ", i)
		switch url {
		case "ftp://h/x":
			want = "te"
		case "http://h/x/y":
			want = "other"
		}
		checkGet(t, n, url, want)
	}
}

func TestPutTakesThePlaceOfAnother(t *testing.T) {
	n := with(t, "http://h/x", "hello")
	for _, s := range []string{"longer than hello", "hi", "", "hello", "olleh"} {
		checkPut(t, n, "http://h/x", s, nil)
		checkGet(t, n, "http://h/x", s)
	}
}

func TestAllOfWhatIsPutAnewComes(t *testing.T) {
	for _, k := range []int{0, 1, 2, 4, 5, 6, math.MaxInt} {
		for _, s := range []string{"hello", "a", "", "much longer than hello"} {
			n := with(t, "http://h/x", "hello")
			checkCut(t, n, "http://h/x", k, nil)
			checkPut(t, n, "http://h/x", s, nil)
			checkGet(t, n, "http://h/x", s)
		}
	}
}

func TestPutTellsLinks(t *testing.T) {
	n := with(t, "http://h/x", "hello")
	for url, want := range noLinks() {
		checkPut(t, n, url, "other", want)
		checkPut(t, n, url, "", want)
		// Ahead of too much.
		checkPut(t, n, url, strings.Repeat("x", api.MaxSource+1), want)
		checkCut(t, n, url, 1, api.ErrNone)
	}
	checkGet(t, n, "http://h/x", "hello")
}

func TestPutTellsTooMuch(t *testing.T) {
	fits := strings.Repeat("y", api.MaxSource)
	n := with(t, "http://h/x", "hello", "http://h/fits", fits)
	checkGet(t, n, "http://h/fits", fits)
	checkCut(t, n, "http://h/x", 2, nil)
	for _, size := range []int{api.MaxSource + 1, api.MaxSource + 2, 2 * api.MaxSource, 1 << 20} {
		s := strings.Repeat("y", size)
		checkPut(t, n, "http://h/x", s, api.ErrBound)
		checkPut(t, n, "http://h/fits", s, api.ErrBound)
		checkPut(t, n, "http://h/new", s, api.ErrBound)
	}
	// What was there is there, cut as it was.
	checkGet(t, n, "http://h/x", "he")
	checkGet(t, n, "http://h/fits", fits)
	checkNothing(t, n, "http://h/new", api.ErrNone)
	// By its bytes, not its letters.
	checkPut(t, n, "http://h/new", strings.Repeat("é", api.MaxSource/2), nil)
	checkPut(t, n, "http://h/new", strings.Repeat("é", api.MaxSource/2)+"x", api.ErrBound)
}

func TestPutTellsTooMany(t *testing.T) {
	l := many(most + 3)
	n := New()
	for i, url := range l {
		want := error(nil)
		if i >= most {
			want = api.ErrFull
		}
		// An empty text takes room, too.
		checkPut(t, n, url, strings.Repeat("x", i%2), want)
	}
	for i, url := range l {
		if i < most {
			checkGet(t, n, url, strings.Repeat("x", i%2))
		} else {
			checkNothing(t, n, url, api.ErrNone)
		}
	}
	// Each of the others is one of just fewer.
	for i, url := range l[:most] {
		checkPut(t, n, url, fmt.Sprint("again ", i), nil)
	}
	for i, url := range l[:most] {
		checkGet(t, n, url, fmt.Sprint("again ", i))
	}
	checkPut(t, n, l[most], "", api.ErrFull)
}

func TestWhatIsWrongAheadOfTooMany(t *testing.T) {
	n := New()
	for _, url := range many(most) {
		checkPut(t, n, url, "x", nil)
	}
	for url, want := range noLinks() {
		checkPut(t, n, url, "x", want)
	}
	checkPut(t, n, "http://new/x", strings.Repeat("x", api.MaxSource+1), api.ErrBound)
	checkPut(t, n, "http://new/x", strings.Repeat("x", api.MaxSource), api.ErrFull)
}

func TestNothingMakesRoom(t *testing.T) {
	l := many(most)
	n := New()
	for _, url := range l {
		checkPut(t, n, url, "x", nil)
	}
	for _, url := range l {
		checkCut(t, n, url, 0, nil)
		host, err := link.Host(url)
		check(t, url, err, nil)
		checkHost(t, n, host, false, nil)
	}
	checkPut(t, n, "http://new/x", "x", api.ErrFull)
	checkPut(t, n, l[0], "anew", nil)
	checkPut(t, n, "http://new/x", "x", api.ErrFull)
}

func TestWhatIsRefusedTakesNoRoom(t *testing.T) {
	n := New()
	for range 2 * most {
		checkPut(t, n, "http://h/x", strings.Repeat("x", api.MaxSource+1), api.ErrBound)
		checkPut(t, n, "http://h", "x", api.ErrText)
		checkCut(t, n, "http://h/x", 1, api.ErrNone)
		checkNothing(t, n, "http://h/x", api.ErrNone)
	}
	for i := range 2 * most {
		checkHost(t, n, fmt.Sprint("h", i), false, nil)
	}
	for _, url := range many(most) {
		checkPut(t, n, url, "x", nil)
	}
}

func TestHostsAreOnAndOff(t *testing.T) {
	n := with(t, "http://h/x", "one", "ftp://h/y/z", "two", "http://i/x", "three", "http://hh/h", "four")
	others := func() {
		t.Helper()
		checkGet(t, n, "http://i/x", "three")
		checkGet(t, n, "http://hh/h", "four")
		checkNothing(t, n, "http://i/none", api.ErrNone)
	}
	// More than once off is off, and once on is on.
	for _, times := range []int{1, 2, 5} {
		for range times {
			checkHost(t, n, "h", false, nil)
		}
		checkNothing(t, n, "http://h/x", api.ErrOff)
		checkNothing(t, n, "ftp://h/y/z", api.ErrOff)
		checkNothing(t, n, "file://h/none", api.ErrOff)
		others()
		checkHost(t, n, "h", true, nil)
		checkGet(t, n, "http://h/x", "one")
		checkGet(t, n, "ftp://h/y/z", "two")
		checkNothing(t, n, "file://h/none", api.ErrNone)
		others()
	}
	checkHost(t, n, "h", true, nil)
	checkHost(t, n, "h", false, nil)
	checkNothing(t, n, "http://h/x", api.ErrOff)
}

func TestHostsAreOnAtFirst(t *testing.T) {
	n := with(t, "http://h/x", "one")
	checkGet(t, n, "http://h/x", "one")
	checkHost(t, n, "h", true, nil)
	checkGet(t, n, "http://h/x", "one")
	// One at which nothing is can be off, too, and is not on because of what is put.
	checkHost(t, n, longest, false, nil)
	checkNothing(t, n, "http://"+longest+"/x", api.ErrOff)
	checkPut(t, n, "http://"+longest+"/x", "two", nil)
	checkNothing(t, n, "http://"+longest+"/x", api.ErrOff)
	checkHost(t, n, longest, true, nil)
	checkGet(t, n, "http://"+longest+"/x", "two")
}

func TestManyHostsAreOff(t *testing.T) {
	n := New()
	for i := range 1000 {
		checkHost(t, n, fmt.Sprint("h", i), false, nil)
	}
	for i := range 1000 {
		if i%3 == 0 {
			checkHost(t, n, fmt.Sprint("h", i), true, nil)
		}
	}
	for i := range 1000 {
		want := api.ErrOff
		if i%3 == 0 {
			want = api.ErrNone
		}
		checkNothing(t, n, fmt.Sprintf("http://h%d/x", i), want)
	}
}

func TestHostTellsNames(t *testing.T) {
	n := with(t, "http://h/x", "one", "http://i/x", "two")
	checkHost(t, n, "i", false, nil)
	for _, host := range noParts() {
		checkHost(t, n, host, false, api.ErrName)
		checkGet(t, n, "http://h/x", "one")
	}
	for _, host := range append(noParts(), "i/", "I", "http://i/x", " i") {
		checkHost(t, n, host, true, api.ErrName)
		checkNothing(t, n, "http://i/x", api.ErrOff)
	}
}

func TestWhatIsOffIsPutAndCut(t *testing.T) {
	n := with(t, "http://h/x", "one")
	checkHost(t, n, "h", false, nil)
	checkPut(t, n, "http://h/x", "another", nil)
	checkPut(t, n, "http://h/y", "second", nil)
	checkCut(t, n, "http://h/y", 3, nil)
	checkCut(t, n, "http://h/y", -1, api.ErrBound)
	checkCut(t, n, "http://h/z", 3, api.ErrNone)
	checkNothing(t, n, "http://h/x", api.ErrOff)
	checkNothing(t, n, "http://h/y", api.ErrOff)
	checkHost(t, n, "h", true, nil)
	checkGet(t, n, "http://h/x", "another")
	checkGet(t, n, "http://h/y", "sec")
}

func TestCut(t *testing.T) {
	for _, s := range []string{"", "a", "hello", "é\x00\xff\n", strings.Repeat("ab", api.MaxSource/2)} {
		n := with(t, "http://h/x", s)
		for _, k := range []int{0, 1, 2, len(s) / 2, max(0, len(s)-1), len(s), len(s) + 1, api.MaxSource, api.MaxSource + 1, math.MaxInt32, math.MaxInt} {
			checkCut(t, n, "http://h/x", k, nil)
			checkGet(t, n, "http://h/x", s[:min(k, len(s))])
		}
	}
}

func TestALaterCutLetsMoreCome(t *testing.T) {
	const s = "hello"
	for first := range len(s) + 2 {
		for second := range len(s) + 2 {
			n := with(t, "http://h/x", s)
			checkCut(t, n, "http://h/x", first, nil)
			checkGet(t, n, "http://h/x", s[:min(first, len(s))])
			checkCut(t, n, "http://h/x", second, nil)
			checkGet(t, n, "http://h/x", s[:min(second, len(s))])
		}
	}
}

func TestCutTellsErrors(t *testing.T) {
	n := with(t, "http://h/x", "hello")
	for _, cut := range []string{"hello", "he", ""} {
		checkCut(t, n, "http://h/x", len(cut), nil)
		for _, k := range []int{-1, -2, -5, math.MinInt32, math.MinInt} {
			checkCut(t, n, "http://h/x", k, api.ErrBound)
			// Nothing is there, ahead of how much of it.
			checkCut(t, n, "http://h/y", k, api.ErrNone)
			checkCut(t, n, "ftp://h/x", k, api.ErrNone)
		}
		checkGet(t, n, "http://h/x", cut)
	}
	for url := range noLinks() {
		for _, k := range []int{math.MinInt, -1, 0, 1, math.MaxInt} {
			checkCut(t, n, url, k, api.ErrNone)
		}
	}
	// What was cut ahead of a text is not cut of it.
	checkCut(t, n, "http://h/y", 1, api.ErrNone)
	checkPut(t, n, "http://h/y", "other", nil)
	checkGet(t, n, "http://h/y", "other")
}

func TestNetsAreApart(t *testing.T) {
	a, b := with(t, "http://h/x", "of a"), New()
	checkNothing(t, b, "http://h/x", api.ErrNone)
	checkPut(t, b, "http://h/x", "of b", nil)
	checkCut(t, b, "http://h/x", 1, nil)
	checkHost(t, a, "i", false, nil)
	checkGet(t, a, "http://h/x", "of a")
	checkGet(t, b, "http://h/x", "o")
	checkNothing(t, b, "http://i/x", api.ErrNone)
	checkCalls(t, a, 2)
	checkCalls(t, b, 6)
	checkCalls(t, New(), 0)
}

// P91

func TestGetTellsLinks(t *testing.T) {
	n := with(t, "http://h/x", "hello")
	for url, want := range noLinks() {
		checkNothing(t, n, url, want)
	}
	checkHost(t, n, "h", false, nil)
	for url, want := range noLinks() {
		checkNothing(t, n, url, want)
	}
	checkCalls(t, n, 0)
}

func TestGetTellsOffAheadOfNone(t *testing.T) {
	n := with(t, "http://h/x", "hello")
	checkNothing(t, n, "http://h/y", api.ErrNone)
	checkHost(t, n, "h", false, nil)
	checkNothing(t, n, "http://h/y", api.ErrOff)
	checkNothing(t, n, "http://h/x", api.ErrOff)
	// Even where nothing of it would come.
	checkCut(t, n, "http://h/x", 0, nil)
	checkNothing(t, n, "http://h/x", api.ErrOff)
}

func TestCalls(t *testing.T) {
	n := with(t, "http://h/x", "hello", "http://off/x", "hello")
	checkHost(t, n, "off", false, nil)
	checkHost(t, n, "OFF", false, api.ErrName)
	checkCut(t, n, "http://h/x", 0, nil)
	checkCut(t, n, "http://h/x", -1, api.ErrBound)
	checkPut(t, n, "x", "", api.ErrText)
	checkCalls(t, n, 0)
	for i, c := range []struct {
		url   string
		calls int
	}{
		{"http://h/x", 1},   // something comes (cut to nothing)
		{"http://h/x", 2},   // and again
		{"http://h/y", 3},   // nothing is there
		{"http://off/x", 4}, // off
		{"http://off/y", 5}, // both
		{"http://h", 5},     // no links
		{"zip://h/x", 5},
		{"http://H/x", 5},
		{"http://h/" + tooMany, 5},
		{"", 5},
		{"ftp://other/x", 6},
	} {
		n.Get(c.url)
		if got := n.Calls(); got != c.calls {
			t.Errorf("%d, %q: %d calls, want %d", i, c.url, got, c.calls)
		}
		// Asking how often is no call.
		checkCalls(t, n, c.calls)
	}
	checkPut(t, n, "http://h/x", "anew", nil)
	checkHost(t, n, "off", true, nil)
	checkCalls(t, n, 6)
	for range 1000 {
		n.Get("http://h/x")
	}
	checkCalls(t, n, 1006)
}

// P90 and P91 once more, by a second working-out: of all that was told, back from the end.

// step is something that is told to a net.
type step struct {
	call, at, text string
	k              int
}

// do a step.
func (s step) do(n *Net) error {
	var err error
	switch s.call {
	case "put":
		err = n.Put(s.at, s.text)
	case "on", "off":
		err = n.Host(s.at, s.call == "on")
	case "cut":
		err = n.Cut(s.at, s.k)
	case "get":
		_, err = n.Get(s.at)
	}
	return err
}

// putLast is the last text at a link, if there is one, and how much of it comes.
func putLast(told []step, at string) (text string, comes int, there bool) {
	comes = -1
	for i := len(told) - 1; i >= 0; i-- {
		s := told[i]
		if s.at == at && s.call == "cut" && comes < 0 && s.k >= 0 {
			comes = s.k
		}
		if s.at == at && s.call == "put" && len(s.text) <= api.MaxSource {
			if comes < 0 {
				comes = len(s.text)
			}
			return s.text, min(comes, len(s.text)), true
		}
	}
	return "", 0, false
}

func isOff(told []step, host string) bool {
	for i := len(told) - 1; i >= 0; i-- {
		if s := told[i]; s.at == host && (s.call == "on" || s.call == "off") {
			return s.call == "off"
		}
	}
	return false
}

// wanted is the error of a step behind those that were told.
func wanted(told []step, s step) error {
	_, _, there := putLast(told, s.at)
	host, noLink := link.Host(s.at)
	switch s.call {
	case "put":
		if noLink == nil && len(s.text) > api.MaxSource {
			return api.ErrBound
		}
		return noLink
	case "cut":
		if !there {
			return api.ErrNone
		}
		if s.k < 0 {
			return api.ErrBound
		}
	case "get":
		switch {
		case noLink != nil:
			return noLink
		case isOff(told, host):
			return api.ErrOff
		case !there:
			return api.ErrNone
		}
	}
	return nil
}

func countCalls(told []step) int {
	calls := 0
	for _, s := range told {
		if s.call == "get" && link.Check(s.at) == nil {
			calls++
		}
	}
	return calls
}

// checkSteps holds a net against all that was told to it.
func checkSteps(t *testing.T, l []step) {
	t.Helper()
	n := New()
	for i, s := range l {
		if got, want := s.do(n), wanted(l[:i], s); got != want {
			t.Fatalf("%v, step %d: %v, want %v", l, i, got, want)
		}
	}
	if got, want := n.Calls(), countCalls(l); got != want {
		t.Fatalf("%v: %d calls, want %d", l, got, want)
	}
	for _, url := range []string{"http://h/x", "ftp://h/x", "http://i/x"} {
		text, comes, _ := putLast(l, url)
		err := wanted(l, step{call: "get", at: url})
		if err != nil {
			comes = 0
		}
		if got, bad := n.Get(url); got != text[:comes] || bad != err {
			t.Fatalf("%v, %s: %q, %v, want %q, %v", l, url, got, bad, text[:comes], err)
		}
	}
}

func TestAllSmallDoings(t *testing.T) {
	steps := []step{
		{call: "put", at: "http://h/x", text: "abc"},
		{call: "put", at: "http://h/x", text: "defgh"},
		{call: "put", at: "http://h/x", text: ""},
		{call: "put", at: "http://h/x", text: strings.Repeat("x", api.MaxSource+1)},
		{call: "put", at: "ftp://h/x", text: "ij"},
		{call: "put", at: "h", text: "no link"},
		{call: "off", at: "h"},
		{call: "on", at: "h"},
		{call: "cut", at: "http://h/x", k: 0},
		{call: "cut", at: "http://h/x", k: 2},
		{call: "cut", at: "http://h/x", k: 4},
		{call: "cut", at: "http://h/x", k: -1},
		{call: "get", at: "http://h/x"},
		{call: "get", at: "http://h"},
	}
	var each func(told []step, more int)
	each = func(told []step, more int) {
		checkSteps(t, told)
		if more == 0 {
			return
		}
		for _, s := range steps {
			each(append(told[:len(told):len(told)], s), more-1)
		}
	}
	each(nil, 4)
}

// P92

func TestWhatComesIsTheBeginningOfWhatWasPut(t *testing.T) {
	l := many(most)
	n := New()
	put := map[string]string{}
	came := 0
	// Mixed by a short rule: seven rounds are of one link, so each kind of round falls on each.
	for i := range 20000 {
		url := l[i/7%most]
		s := strings.Repeat(fmt.Sprint(i, "\xff\n"), i%23)
		switch i % 4 {
		case 0:
			checkPut(t, n, url, s, nil)
			put[url] = s
		case 1:
			n.Cut(url, i%97-3)
		case 2:
			checkHost(t, n, fmt.Sprint("h", i%7), i%5 > 0, nil)
		case 3:
			if n.Put(url, s+strings.Repeat("x", api.MaxSource+1)) == nil {
				t.Fatalf("%s: more than may be was put", url)
			}
		}
		for _, url := range []string{url, l[i%most]} {
			if got, err := n.Get(url); !strings.HasPrefix(put[url], got) || err != nil && got != "" {
				t.Fatalf("round %d, %s: %q, %v, of %q", i, url, got, err, put[url])
			} else if got != "" {
				came++
			}
		}
	}
	if came < 10000 {
		t.Errorf("only %d times something came", came)
	}
}

func TestWhatCameStays(t *testing.T) {
	n := with(t, "http://h/x", "hello")
	first, _ := n.Get("http://h/x")
	checkCut(t, n, "http://h/x", 2, nil)
	second, _ := n.Get("http://h/x")
	checkPut(t, n, "http://h/x", "other", nil)
	if first != "hello" || second != "he" {
		t.Errorf("%q, %q", first, second)
	}
}

func TestWhatWasHandedOverMayChange(t *testing.T) {
	b := []byte("hello")
	n := with(t, "http://h/x", string(b))
	copy(b, "other")
	checkGet(t, n, "http://h/x", "hello")
}
