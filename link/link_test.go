package link

import (
	"regexp"
	"strings"
	"testing"

	"chandlery/api"
)

// The errors are held against each other by ==, not errors.Is: no call of this package tells a place, so each error is bare.

const (
	longest = "abcdefghij-9" // of MaxName bytes
	tooLong = longest + "z"
	fullest = "a/b/c/d/e/f" // of MaxParts parts
	tooMany = fullest + "/g"
)

func TestEdgesAreWhereTheyAreMeant(t *testing.T) {
	if len(longest) != api.MaxName || strings.Count(fullest, "/")+1 != api.MaxParts {
		t.Fatal("the texts of these tests do not lie at the bounds")
	}
}

// P60

// checkLink holds what is told of a link: host and last part.
func checkLink(t *testing.T, s, host, last string) {
	t.Helper()
	h, noHost := Host(s)
	l, noLast := Last(s)
	if h != host || noHost != nil || l != last || noLast != nil {
		t.Errorf("%q: %q, %v, %q, %v, want %q, %q", s, h, noHost, l, noLast, host, last)
	}
	if err := Check(s); err != nil {
		t.Errorf("%q: Check %v", s, err)
	}
	if err := Begins(s); err != nil {
		t.Errorf("%q: Begins %v", s, err)
	}
}

// checkNoLink holds that each call tells the same of what is no link, and nothing beside it.
func checkNoLink(t *testing.T, s string, want error) {
	t.Helper()
	h, noHost := Host(s)
	l, noLast := Last(s)
	if h != "" || noHost != want || l != "" || noLast != want {
		t.Errorf("%q: %q, %v, %q, %v, want %v", s, h, noHost, l, noLast, want)
	}
	if err := Check(s); err != want {
		t.Errorf("%q: Check %v, want %v", s, err, want)
	}
}

func checkBegins(t *testing.T, s string, want error) {
	t.Helper()
	if err := Begins(s); err != want {
		t.Errorf("%q: Begins %v, want %v", s, err, want)
	}
}

func TestLinks(t *testing.T) {
	for s, want := range map[string][2]string{
		"http://h/x":               {"h", "x"},
		"ftp://h/x":                {"h", "x"},
		"file://h/x":               {"h", "x"},
		"http://h/x/y":             {"h", "y"},
		"http://h/y/x/y":           {"h", "y"},
		"http://h/h":               {"h", "h"},
		"http://http/ftp":          {"http", "ftp"},
		"ftp://a.b-c_1/d/e.tar":    {"a.b-c_1", "e.tar"},
		"file://-/_":               {"-", "_"},
		"file://0/9":               {"0", "9"},
		"file://.../...":           {"...", "..."},
		"file://.a/b.":             {".a", "b."},
		"http://" + longest + "/x": {longest, "x"},
		"http://h/" + longest:      {"h", longest},
		"http://h/x/" + longest:    {"h", longest},
		"http://h/" + fullest:      {"h", "f"},
		"http://" + longest + "/a/b/c/d/e/" + longest: {longest, longest},
		"ftp://h" + strings.Repeat("/"+longest, 6):    {"h", longest},
	} {
		checkLink(t, s, want[0], want[1])
	}
}

// checkNeither holds that texts are no links, and begin none.
func checkNeither(t *testing.T, want error, texts ...string) {
	t.Helper()
	for _, s := range texts {
		checkNoLink(t, s, want)
		checkBegins(t, s, want)
	}
}

func TestNoEndOfKindOrHost(t *testing.T) {
	checkNeither(t, api.ErrText, "", "x", "/", "h/x", "http", "http:", "http:/", "http://", "http:/h/x", "http//h/x", "http:h/x", "http: //h/x", `http:\\h\x`, "://", "http://h", "http://h:80")
	// Ahead of what else is wrong.
	checkNeither(t, api.ErrText, "zip", "zip://h", "zip://H", "a/b://h", "http://H", "http://"+tooLong)
}

func TestWrongKinds(t *testing.T) {
	checkNeither(t, api.ErrKind, "zip://h/x", "zip://h/", "https://h/x", "htt://h/x", "ttp://h/x", "httpftp://h/x", "files://h/x", "Http://h/x", "FTP://h/x", " http://h/x", "http ://h/x", "http:://h/x", "/http://h/x", "a/b://h/x", "://h/x")
	checkNeither(t, api.ErrKind, ":///", "zip:///", "zip://H/A", "zip://h/"+tooMany)
}

func TestWrongHosts(t *testing.T) {
	checkNeither(t, api.ErrName, "http:///", "http:///x", "http:////", "http://H/x", "http://H/", "http://./x", "http://../x", "http://h:80/x", "http://a@h/x", "http:// h/x", "http://h /x", "http://é/x", "http://\xff/x", "http://h\x00/x", "http://://x", "http://http://h/x", "http://"+tooLong+"/x", "http://"+tooLong+"/")
	checkNeither(t, api.ErrName, "http://H/"+tooMany)
}

func TestWrongPaths(t *testing.T) {
	checkNeither(t, api.ErrName, "http://h//x", "http://h///", "http://h/a//", "http://h/a//b", "http://h//a/", "http://h/.", "http://h/./", "http://h/..", "http://h/../", "http://h/../x", "http://h/a/../x", "http://h/A", "http://h/A/", "http://h/a?b", "http://h/a b", "http://h/a\n", "http://h/é", "http://h/http://h", "http://h/"+tooLong, "http://h/"+tooLong+"/")
	checkNeither(t, api.ErrName, "http://h/"+tooMany+"/A", "http://h/"+tooMany+"/../", "http://h/"+tooMany+"//")
	checkNeither(t, api.ErrFull, "http://h/"+tooMany, "file://h/"+tooMany+"/h", "ftp://h"+strings.Repeat("/a", 5000))
}

func TestBeginningsThatAreNoLinks(t *testing.T) {
	for _, s := range []string{
		"http://h/", "ftp://h/", "file://h/", "http://" + longest + "/", "http://.../",
		"http://h/a/", "http://h/a/b/", "http://h/" + longest + "/", "http://h/" + fullest + "/",
		// What is left of it without its end is nothing.
		"http://h//",
	} {
		checkBegins(t, s, nil)
		checkNoLink(t, s, api.ErrName)
	}
}

func TestTooManyPartsWithAnEnd(t *testing.T) {
	const s = "http://h/" + tooMany + "/"
	checkBegins(t, s, api.ErrFull)
	checkNoLink(t, s, api.ErrName)
}

func TestEachByte(t *testing.T) {
	const may = "abcdefghijklmnopqrstuvwxyz0123456789._-"
	for b := range 256 {
		c := string([]byte{byte(b)})
		checkNeither(t, api.ErrKind, "ht"+c+"tp://h/x", c+"://h/")
		if strings.Contains(may, c) {
			checkLink(t, "http://h"+c+"h/a"+c+"a", "h"+c+"h", "a"+c+"a")
			continue
		}
		if c == "/" {
			checkBegins(t, "http://h/a"+c+"a", nil)
			checkBegins(t, "http://h/a"+c, nil)
			continue
		}
		checkNeither(t, api.ErrName, "http://h"+c+"h/x", "http://h/a"+c+"a", "http://h/a/"+c, "http://h/"+c+"/a", "http://h/a"+c)
	}
}

// form tells what the document says of a text, by patterns: of a link, or of the beginning of one.
type form struct{ kind, host, names, parts *regexp.Regexp }

const part = `(?:[a-z0-9_-]|\.[a-z0-9_-]|\.\.[a-z0-9._-]|[a-z0-9_-][a-z0-9._-]|\.[a-z0-9_-][a-z0-9._-]|[a-z0-9_-][a-z0-9._-]{2}|[a-z0-9._-]{4,12})`

func linkForm() form {
	return form{
		kind:  regexp.MustCompile(`^(?:http|ftp|file)$`),
		host:  regexp.MustCompile(`^` + part + `$`),
		names: regexp.MustCompile(`^` + part + `(?:/` + part + `)*$`),
		parts: regexp.MustCompile(`^` + part + `(?:/` + part + `){0,5}$`),
	}
}

func beginForm() form {
	f := linkForm()
	f.names = regexp.MustCompile(`^(?:` + part + `(?:/` + part + `)*)?/?$`)
	f.parts = regexp.MustCompile(`^(?:` + part + `(?:/` + part + `){0,5})?/?$`)
	return f
}

func (f form) tell(s string) error {
	mark := strings.Index(s, "://")
	if mark < 0 || !strings.Contains(s[mark+3:], "/") {
		return api.ErrText
	}
	words := strings.SplitN(s[mark+3:], "/", 2)
	switch {
	case !f.kind.MatchString(s[:mark]):
		return api.ErrKind
	case !f.host.MatchString(words[0]), !f.names.MatchString(words[1]):
		return api.ErrName
	case !f.parts.MatchString(words[1]):
		return api.ErrFull
	}
	return nil
}

// eachText goes through all texts of up to most pieces.
func eachText(pieces []string, most int, hand func(string)) {
	var grow func(s string, left int)
	grow = func(s string, left int) {
		hand(s)
		if left == 0 {
			return
		}
		for _, piece := range pieces {
			grow(s+piece, left-1)
		}
	}
	grow("", most)
}

// checkForm holds each call against the form, and what is told of a link against the link.
func checkForm(t *testing.T, link, begin form, s string) {
	t.Helper()
	checkBegins(t, s, begin.tell(s))
	want := link.tell(s)
	if want != nil {
		checkNoLink(t, s, want)
		return
	}
	words := strings.Split(s, "/")
	checkLink(t, s, words[2], words[len(words)-1])
}

func TestAllSmallTextsAgainstTheForm(t *testing.T) {
	link, begin := linkForm(), beginForm()
	eachText([]string{"http", "zip", ":", "://", "/", ".", "a", "A"}, 6, func(s string) { checkForm(t, link, begin, s) })
	eachText([]string{"/", "/b", ".", "A", longest, "://", "c/d/e"}, 5, func(s string) { checkForm(t, link, begin, "ftp://h/a"+s) })
}

// P61

// checkSwap holds one swap; with an error nothing else is told.
func checkSwap(t *testing.T, from, to, s, want string, err error) {
	t.Helper()
	if x, bad := Swap(from, to, s); x != want || bad != err {
		t.Errorf("%q, %q, %q: %q, %v, want %q, %v", from, to, s, x, bad, want, err)
	}
}

func TestSwap(t *testing.T) {
	for _, c := range [][4]string{
		{"http://a/", "ftp://b/", "http://a/x", "ftp://b/x"},
		{"http://a/", "ftp://b/", "http://a/x/y", "ftp://b/x/y"},
		{"http://a/", "http://a/", "http://a/x", "http://a/x"},
		{"http://a/", "file://" + longest + "/p/q/", "http://a/x/y", "file://" + longest + "/p/q/x/y"},
		{"http://a/x/", "ftp://b/", "http://a/x/y", "ftp://b/y"},
		{"http://a/x/", "ftp://b/p/q/", "http://a/x/y", "ftp://b/p/q/y"},
		// Only its beginning is swapped, and once.
		{"http://a/x/", "ftp://b/y/", "http://a/x/x/y", "ftp://b/y/x/y"},
		{"http://a/x", "ftp://b/xx", "http://a/xx", "ftp://b/xxx"},
		// A beginning may end within a part.
		{"http://a/x", "ftp://b/", "http://a/xy", "ftp://b/y"},
		{"http://a/x", "ftp://b/p", "http://a/xy/z", "ftp://b/py/z"},
		{"http://a/", "ftp://b/p", "http://a/x", "ftp://b/px"},
		{"http://a/", "ftp://b/p", "http://a/..x", "ftp://b/p..x"},
		{"http://a/x", "ftp://b/y", "http://a/x/z", "ftp://b/y/z"},
		// What begins may be all of it.
		{"http://a/x", "ftp://b/y", "http://a/x", "ftp://b/y"},
		{"http://a/x/y", "ftp://b/" + fullest, "http://a/x/y", "ftp://b/" + fullest},
		{"http://a/" + fullest, "ftp://b/y", "http://a/" + fullest, "ftp://b/y"},
		{"http://a/", "ftp://b/", "http://a/" + fullest, "ftp://b/" + fullest},
		{"http://a/", "ftp://b/a/b/c/d/e/", "http://a/f", "ftp://b/" + fullest},
		{"http://a/x", "ftp://b/abcdefghij-", "http://a/x9", "ftp://b/" + longest},
	} {
		checkSwap(t, c[0], c[1], c[2], c[3], nil)
	}
}

func TestSwapTellsErrors(t *testing.T) {
	for _, c := range []struct {
		from, to, s string
		err         error
	}{
		{"", "ftp://b/", "http://a/x", api.ErrText},
		{"http://a", "ftp://b/", "http://a/x", api.ErrText},
		{"http://A/", "ftp://b/", "http://a/x", api.ErrName},
		{"http://a/" + tooMany, "ftp://b/", "http://a/x", api.ErrFull},
		{"http://a/", "", "http://a/x", api.ErrText},
		{"http://a/", "ftp://b", "http://a/x", api.ErrText},
		{"http://a/", "zip://b/", "http://a/x", api.ErrKind},
		{"http://a/", "ftp://b/../", "http://a/x", api.ErrName},
		{"http://a/", "ftp://b/" + tooMany + "/", "http://a/x", api.ErrFull},
		{"http://a/", "ftp://b/", "", api.ErrText},
		{"http://a/", "ftp://b/", "zip://a/x", api.ErrKind},
		{"http://a/", "ftp://b/", "http://a/", api.ErrName},
		{"http://a/", "ftp://b/", "http://a/" + tooMany, api.ErrFull},
		// What would be is a link, but what was is only the beginning of one.
		{"http://a/x/", "ftp://b/y", "http://a/x/", api.ErrName},
		{"http://a/", "ftp://b/y", "http://a/", api.ErrName},
		{"http://b/", "ftp://b/", "http://a/x", api.ErrNone},
		{"ftp://a/", "ftp://b/", "http://a/x", api.ErrNone},
		{"http://a/x/", "ftp://b/", "http://a/x", api.ErrNone},
		{"http://a/xy", "ftp://b/", "http://a/x", api.ErrNone},
		{"http://a/y", "ftp://b/", "http://a/x/y", api.ErrNone},
		{"http://a//", "ftp://b/", "http://a/x", api.ErrNone},
		{"http://a/x", "ftp://b/", "http://a/x", api.ErrName},
		{"http://a/x", "ftp://b/", "http://a/x/y", api.ErrName},
		{"http://a/x", "ftp://b/", "http://a/x..", api.ErrName},
		{"http://a/x", "ftp://b/", "http://a/x./y", api.ErrName},
		{"http://a/x", "ftp://b/y/", "http://a/x", api.ErrName},
		{"http://a/x", "ftp://b/y/", "http://a/x/z", api.ErrName},
		{"http://a/", "ftp://b//", "http://a/x", api.ErrName},
		{"http://a/", "ftp://b/" + longest, "http://a/x", api.ErrName},
		{"http://a/", "ftp://b/" + fullest + "/", "http://a/x", api.ErrFull},
		{"http://a/", "ftp://b/a/b/c/", "http://a/x/y/z/w", api.ErrFull},
	} {
		checkSwap(t, c.from, c.to, c.s, "", c.err)
	}
}

func TestSwapTellsTheFirstError(t *testing.T) {
	const kind, name, full = "zip://b/", "http://B/", "http://b/" + tooMany
	checkSwap(t, "x", kind, name, "", api.ErrText)
	checkSwap(t, kind, "x", name, "", api.ErrKind)
	checkSwap(t, name, "x", kind, "", api.ErrName)
	checkSwap(t, full, "x", kind, "", api.ErrFull)
	checkSwap(t, "http://a/", kind, "x", "", api.ErrKind)
	checkSwap(t, "http://a/", full, "x", "", api.ErrFull)
	checkSwap(t, "http://c/", "ftp://b/", "x", "", api.ErrText)
	checkSwap(t, "http://c/", "ftp://b/", "http://a/", "", api.ErrName)
	checkSwap(t, "http://c/", "ftp://b/", full, "", api.ErrFull)
	checkSwap(t, "http://c/", "ftp://b/"+fullest+"/", "http://a/x", "", api.ErrNone)
}

// P62

func beginnings() []string {
	var out []string
	for _, head := range []string{"http://a/", "http://ab/", "ftp://a/"} {
		for _, way := range []string{"", "/", "x", "x/", "x/y", "x/y/", "xx", ".x", longest, longest + "/", "a/b/c/d/e/", fullest, fullest + "/"} {
			out = append(out, head+way)
		}
	}
	return out
}

// links are all small ones, and some at the bounds.
func links() []string {
	var out []string
	for _, head := range []string{"http://a", "http://ab", "ftp://a"} {
		eachText([]string{"/x", "/y", "x", ".", "/" + longest, "/c/d/e"}, 3, func(s string) {
			if Check(head+s) == nil {
				out = append(out, head+s)
			}
		})
		out = append(out, head+"/"+fullest)
	}
	return out
}

// checkBack swaps, and swaps back, and tells whether there was something to swap.
func checkBack(t *testing.T, from, to, s string) bool {
	t.Helper()
	x, err := Swap(from, to, s)
	if err != nil {
		return false
	}
	if Check(x) != nil || !strings.HasPrefix(x, to) {
		t.Errorf("%q, %q, %q: %q", from, to, s, x)
	}
	if back, err := Swap(to, from, x); back != s || err != nil {
		t.Errorf("%q, %q, %q: %q, back %q, %v", from, to, s, x, back, err)
	}
	return true
}

func TestSwappedBackIsWhatItWas(t *testing.T) {
	swapped, all := 0, links()
	for _, from := range beginnings() {
		for _, to := range beginnings() {
			for _, s := range all {
				if checkBack(t, from, to, s) {
					swapped++
				}
			}
		}
	}
	// Else nothing would be held, if all swaps told errors.
	if swapped < 1000 {
		t.Error(swapped)
	}
}

func TestWhatBeginsSoIsSwapped(t *testing.T) {
	for _, from := range beginnings() {
		for _, s := range links() {
			if x, err := Swap(from, from, s); strings.HasPrefix(s, from) && (x != s || err != nil) {
				t.Errorf("%q, %q: %q, %v", from, s, x, err)
			}
		}
	}
}

func FuzzNothingPanicsAndSwappedBackIsWhatItWas(f *testing.F) {
	for _, s := range []string{"", "://", "http://", "http://h", "http://h/", "http://h//", "zip://H/A", "http://a/x", "ftp://\xff/é", "http://a/" + tooMany} {
		f.Add(s, "ftp://b/", "http://a/x/y")
		f.Add("http://a/", s, "http://a/x/y")
		f.Add("http://a/", "ftp://b/p", s)
	}
	link, begin := linkForm(), beginForm()
	f.Fuzz(func(t *testing.T, from, to, s string) {
		checkBack(t, from, to, s)
		for _, x := range []string{from, to, s} {
			checkForm(t, link, begin, x)
		}
	})
}
