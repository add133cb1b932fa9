package mirror

import (
	"fmt"
	"slices"
	"sort"
	"strings"
	"testing"

	"chandlery/api"
	"chandlery/link"
	"chandlery/plain"
)

const (
	longest = "abcdefghij-9" // of MaxName bytes
	fullest = "a/b/c/d/e/f"  // of MaxParts parts
	tooMany = fullest + "/g"
)

func TestEdgesAreWhereTheyAreMeant(t *testing.T) {
	if len(longest) != api.MaxName || strings.Count(fullest, "/")+1 != api.MaxParts {
		t.Fatal("the texts of these tests do not lie at the bounds")
	}
}

// rule of words: what it is from, and what stands in its place.
func rule(from string, to ...string) api.Rule { return api.Rule{From: from, To: to} }

// many beginnings of links, all of them others.
func many(n int) []string {
	var out []string
	for i := range n {
		out = append(out, fmt.Sprintf("ftp://m%d/", i))
	}
	return out
}

// manyRules, each of a host of its own.
func manyRules(n int) []api.Rule {
	var out []api.Rule
	for _, from := range many(n) {
		out = append(out, rule(from, "http://x/"))
	}
	return out
}

// told is what a call answered, in one text: so a bare error differs from one with a place, and from another error.
func told(ways []string, err error) string {
	s := strings.Join(ways, " ")
	if err != nil {
		_, at := plain.Code(err)
		s += fmt.Sprintf("%T %v at %d", err, err, at)
	}
	return s
}

func bare(err error) string { return told(nil, err) }

func faultAt(at int, err error) string { return told(nil, &api.Fault{At: at, Err: err}) }

// checkRight holds that rules are right: in both calls.
func checkRight(t *testing.T, l []api.Rule) {
	t.Helper()
	if err := Check(l); err != nil {
		t.Errorf("%v: %v", l, err)
	}
	if _, err := Ways(l, "http://other/x"); err != nil {
		t.Errorf("%v: Ways %v", l, err)
	}
}

// checkWrong holds that both calls tell the same of wrong rules, whatever the link, and nothing beside it.
func checkWrong(t *testing.T, l []api.Rule, want string) {
	t.Helper()
	if x := told(nil, Check(l)); x != want {
		t.Errorf("%v: %s, want %s", l, x, want)
	}
	for _, s := range []string{"http://a/x", "http://other/x", "http://a/", "zip://a/x", ""} {
		if x := told(Ways(l, s)); x != want {
			t.Errorf("%v, %q: Ways %s, want %s", l, s, x, want)
		}
	}
}

// checkWays holds the ways to a link, one blank between.
func checkWays(t *testing.T, l []api.Rule, s, want string) {
	t.Helper()
	if x := told(Ways(l, s)); x != want {
		t.Errorf("%v, %q: %s, want %s", l, s, x, want)
	}
}

// P70

func TestRightRules(t *testing.T) {
	for _, l := range [][]api.Rule{
		nil,
		{},
		{rule("http://a/")},
		{{From: "http://a/", To: []string{}}},
		{rule("http://a/", "ftp://b/")},
		{rule("http://a/", "http://a/")},
		{rule("http://a/x", "file://b/y", "file://b/y/")},
		{rule("http://a//", "ftp://b//")},
		{rule("http://"+longest+"/"+fullest, "ftp://"+longest+"/"+fullest+"/")},
		// Nothing is said of rules that are alike.
		{rule("http://a/", "ftp://b/"), rule("http://a/", "ftp://b/"), rule("http://a/")},
		{rule("http://a/", many(api.MaxWays)...)},
		{rule("http://a/", slices.Repeat([]string{"ftp://b/"}, api.MaxWays)...)},
		manyRules(api.MaxRules),
		slices.Repeat([]api.Rule{rule("http://a/", many(api.MaxWays)...)}, api.MaxRules),
	} {
		checkRight(t, l)
	}
}

func TestTooManyRules(t *testing.T) {
	checkWrong(t, manyRules(api.MaxRules+1), bare(api.ErrFull))
	checkWrong(t, manyRules(1000), bare(api.ErrFull))
	// Ahead of what else is wrong.
	checkWrong(t, make([]api.Rule, api.MaxRules+1), bare(api.ErrFull))
	checkWrong(t, append([]api.Rule{rule("zip://a/")}, manyRules(api.MaxRules)...), bare(api.ErrFull))
	checkWrong(t, slices.Repeat([]api.Rule{rule("http://a/", many(api.MaxWays+1)...)}, api.MaxRules+1), bare(api.ErrFull))
}

// wrongBeginnings, and what link.Begins tells of each.
func wrongBeginnings() map[string]error {
	return map[string]error{
		"":                          api.ErrText,
		"x":                         api.ErrText,
		"http://a":                  api.ErrText,
		"http:/a/":                  api.ErrText,
		"zip://a/":                  api.ErrKind,
		"HTTP://a/":                 api.ErrKind,
		"://a/":                     api.ErrKind,
		"http:///":                  api.ErrName,
		"http://A/":                 api.ErrName,
		"http://../x":               api.ErrName,
		"http://" + longest + "z/":  api.ErrName,
		"http://a/..":               api.ErrName,
		"http://a/x//":              api.ErrName,
		"http://a/x y":              api.ErrName,
		"http://a/\xff":             api.ErrName,
		"http://a/" + tooMany:       api.ErrFull,
		"http://a/" + tooMany + "/": api.ErrFull,
	}
}

func TestWrongFrom(t *testing.T) {
	good := rule("http://a/", "ftp://b/")
	for from, err := range wrongBeginnings() {
		for at := range api.MaxRules {
			l := slices.Repeat([]api.Rule{good}, api.MaxRules)
			l[at] = rule(from, "ftp://b/")
			checkWrong(t, l, faultAt(at, err))
		}
		checkWrong(t, []api.Rule{rule(from)}, faultAt(0, err))
	}
}

func TestWrongTo(t *testing.T) {
	good := rule("http://a/", "ftp://b/")
	for to, err := range wrongBeginnings() {
		for at := range api.MaxWays {
			l := many(api.MaxWays)
			l[at] = to
			// The place is the rule's, not that of what it leads to.
			checkWrong(t, []api.Rule{rule("http://a/", l...)}, faultAt(0, err))
			checkWrong(t, []api.Rule{good, good, rule("http://a/", l...), good}, faultAt(2, err))
		}
	}
}

func TestTooManyWaysOfARule(t *testing.T) {
	good := rule("http://a/", many(api.MaxWays)...)
	for _, to := range [][]string{many(api.MaxWays + 1), many(1000), slices.Repeat([]string{"ftp://b/"}, api.MaxWays+1), make([]string, api.MaxWays+1)} {
		checkWrong(t, []api.Rule{rule("http://a/", to...)}, faultAt(0, api.ErrFull))
		checkWrong(t, []api.Rule{good, rule("http://a/", to...), good}, faultAt(1, api.ErrFull))
	}
}

func TestTheFirstThatIsWrongIsTold(t *testing.T) {
	full := many(api.MaxWays + 1)
	for _, c := range []struct {
		l    []api.Rule
		want string
	}{
		// In a rule: From, how many, each of To.
		{[]api.Rule{rule("http://a", full...)}, faultAt(0, api.ErrText)},
		{[]api.Rule{rule("zip://a/", append(full, "")...)}, faultAt(0, api.ErrKind)},
		{[]api.Rule{rule("http://A/", "")}, faultAt(0, api.ErrName)},
		{[]api.Rule{rule("http://a/", append([]string{"zip://a/"}, full...)...)}, faultAt(0, api.ErrFull)},
		{[]api.Rule{rule("http://a/", "ftp://b/", "zip://a/", "", "http://A/")}, faultAt(0, api.ErrKind)},
		{[]api.Rule{rule("http://a/", "ftp://b/", "", "zip://a/")}, faultAt(0, api.ErrText)},
		{[]api.Rule{rule("http://a/", "http://a/"+tooMany, "http://A/")}, faultAt(0, api.ErrFull)},
		// Of rules: the first one, whatever is wrong with it.
		{[]api.Rule{rule("http://a/", "zip://a/"), rule("http://a")}, faultAt(0, api.ErrKind)},
		{[]api.Rule{rule("http://a/", full...), rule("http://a")}, faultAt(0, api.ErrFull)},
		{[]api.Rule{rule("http://a/"), rule("http://a/", "http://A/"), rule("http://a/", full...), {}}, faultAt(1, api.ErrName)},
		{[]api.Rule{rule("http://a/"), {}, rule("zip://a/")}, faultAt(1, api.ErrText)},
	} {
		checkWrong(t, c.l, c.want)
	}
}

// P71

func TestWays(t *testing.T) {
	l := []api.Rule{
		rule("http://a/", "ftp://m/", "ftp://n/p/"),
		rule("http://a/x/", "file://f/", "ftp://m/x/", "http://b/"),
		rule("http://a/z", "ftp://q/", "ftp://q/r"),
		rule("http://a/y/"),
		rule("ftp://c/"+fullest, "http://d/one"),
	}
	for s, want := range map[string]string{
		"http://a/p":          "ftp://m/p ftp://n/p/p http://a/p",
		"http://a/p/q":        "ftp://m/p/q ftp://n/p/p/q http://a/p/q",
		"http://a/x":          "ftp://m/x ftp://n/p/x http://a/x",
		"http://a/xy":         "ftp://m/xy ftp://n/p/xy http://a/xy",
		"http://a/x/p":        "file://f/p ftp://m/x/p http://b/p http://a/x/p",
		"http://a/x/x/p":      "file://f/x/p ftp://m/x/x/p http://b/x/p http://a/x/x/p",
		"http://a/p/x/q":      "ftp://m/p/x/q ftp://n/p/p/x/q http://a/p/x/q",
		"http://a/zz":         "ftp://q/z ftp://q/rz http://a/zz",
		"http://a/z":          "ftp://q/r http://a/z",
		"http://a/z/p":        "ftp://q/r/p http://a/z/p",
		"http://a/y/p":        "http://a/y/p",
		"ftp://c/" + fullest:  "http://d/one ftp://c/" + fullest,
		"ftp://c/a/b/c/d/e":   "ftp://c/a/b/c/d/e",
		"http://ab/p":         "http://ab/p",
		"http://b/p":          "http://b/p",
		"ftp://a/p":           "ftp://a/p",
		"ftp://m/p":           "ftp://m/p",
		"file://f/x":          "file://f/x",
		"http://a/" + fullest: "ftp://m/" + fullest + " http://a/" + fullest,
	} {
		checkWays(t, l, s, want)
	}
}

func TestWithoutARuleTheLinkIsTheOnlyWay(t *testing.T) {
	for _, s := range []string{"http://a/p", "ftp://h/" + fullest, "file://" + longest + "/" + longest} {
		checkWays(t, nil, s, s)
		checkWays(t, []api.Rule{}, s, s)
		checkWays(t, []api.Rule{rule("http://b/", "ftp://b/")}, s, s)
		checkWays(t, []api.Rule{rule(s)}, s, s)
	}
}

func TestTheLongestFromCounts(t *testing.T) {
	l := []api.Rule{rule("http://a/", "ftp://one/"), rule("http://a/x", "ftp://two/x"), rule("http://a/x/", "ftp://three/"), rule("http://a/x/y", "ftp://four/y"), rule("http://a/x/yy/zz", "ftp://five/z")}
	for s, want := range map[string]string{
		"http://a/p":    "ftp://one/p",
		"http://a/x":    "ftp://two/x",
		"http://a/xy":   "ftp://two/xy",
		"http://a/x/p":  "ftp://three/p",
		"http://a/x/y":  "ftp://four/y",
		"http://a/x/yy": "ftp://four/yy",
	} {
		// The order of the rules does not count, where they are of other lengths.
		for turn := range l {
			turned := slices.Concat(l[turn:], l[:turn])
			checkWays(t, turned, s, want+" "+s)
			slices.Reverse(turned)
			checkWays(t, turned, s, want+" "+s)
		}
	}
}

func TestOfTheLongestTheFirstCounts(t *testing.T) {
	one, two := rule("http://a/x/", "ftp://one/"), rule("http://a/x/", "ftp://two/", "ftp://three/")
	short, none, other := rule("http://a/", "ftp://four/"), rule("http://a/x/"), rule("http://b/x/", "ftp://five/")
	for _, c := range []struct {
		l    []api.Rule
		want string
	}{
		{[]api.Rule{one, two}, "ftp://one/p http://a/x/p"},
		{[]api.Rule{two, one}, "ftp://two/p ftp://three/p http://a/x/p"},
		{[]api.Rule{short, one, short, two}, "ftp://one/p http://a/x/p"},
		{[]api.Rule{other, two, one, short}, "ftp://two/p ftp://three/p http://a/x/p"},
		// A rule that leads nowhere is one, too.
		{[]api.Rule{short, none, one}, "http://a/x/p"},
		{[]api.Rule{one, none}, "ftp://one/p http://a/x/p"},
	} {
		checkWays(t, c.l, "http://a/x/p", c.want)
	}
}

func TestWhatWouldBeNoLinkIsNoWay(t *testing.T) {
	for _, c := range []struct {
		to      []string
		s, want string
	}{
		{[]string{"ftp://m/" + fullest + "/"}, "http://a/p", "http://a/p"},
		{[]string{"ftp://m/a/b/c/d/e/"}, "http://a/p", "ftp://m/a/b/c/d/e/p http://a/p"},
		{[]string{"ftp://m/a/b/c/d/e/"}, "http://a/p/q", "http://a/p/q"},
		{[]string{"ftp://m/" + longest}, "http://a/p", "http://a/p"},
		{[]string{"ftp://m//"}, "http://a/p", "http://a/p"},
		// Those beside it are ways all the same, in their order.
		{[]string{"ftp://m//", "ftp://n/", "ftp://m/" + longest, "ftp://o/", "ftp://m/" + fullest + "/"}, "http://a/p", "ftp://n/p ftp://o/p http://a/p"},
	} {
		checkWays(t, []api.Rule{rule("http://a/", c.to...)}, c.s, c.want)
	}
	// No shorter rule comes in its place.
	l := []api.Rule{rule("http://a/", "ftp://m/"), rule("http://a/x", "ftp://n/")}
	checkWays(t, l, "http://a/x", "http://a/x")
	checkWays(t, l, "http://a/x/p", "http://a/x/p")
	checkWays(t, l, "http://a/x..", "http://a/x..")
	checkWays(t, l, "http://a/x...", "ftp://n/... http://a/x...")
}

func TestEachWayOnce(t *testing.T) {
	for _, c := range []struct {
		to   []string
		want string
	}{
		{[]string{"ftp://m/", "ftp://m/"}, "ftp://m/p http://a/p"},
		{[]string{"ftp://m/", "ftp://n/", "ftp://m/", "ftp://o/", "ftp://n/"}, "ftp://m/p ftp://n/p ftp://o/p http://a/p"},
		{slices.Repeat([]string{"ftp://m/"}, api.MaxWays), "ftp://m/p http://a/p"},
		// Where the link itself comes earlier, it does not come again.
		{[]string{"http://a/"}, "http://a/p"},
		{[]string{"http://a/", "ftp://m/"}, "http://a/p ftp://m/p"},
		{[]string{"ftp://m/", "http://a/", "ftp://n/", "http://a/"}, "ftp://m/p http://a/p ftp://n/p"},
		{[]string{"ftp://m/", "ftp://n/", "http://a/"}, "ftp://m/p ftp://n/p http://a/p"},
	} {
		checkWays(t, []api.Rule{rule("http://a/", c.to...)}, "http://a/p", c.want)
	}
}

func TestAsManyWaysAsMayBe(t *testing.T) {
	l := slices.Repeat([]api.Rule{rule("http://a/", many(api.MaxWays)...)}, api.MaxRules)
	checkWays(t, l, "http://a/p", strings.Join(many(api.MaxWays), "p ")+"p http://a/p")
}

func TestWaysToWhatIsNoLink(t *testing.T) {
	for _, l := range [][]api.Rule{nil, {rule("http://a/", "ftp://m/", "ftp://m/x")}, {rule("http://a/x/", "ftp://m/y")}} {
		for s, err := range map[string]error{
			"":                    api.ErrText,
			"x":                   api.ErrText,
			"http://a":            api.ErrText,
			"zip://a/x":           api.ErrKind,
			"http://A/x":          api.ErrName,
			"http://a/":           api.ErrName,
			"http://a/x/":         api.ErrName,
			"http://a/../x":       api.ErrName,
			"http://a/\xff":       api.ErrName,
			"http://a/" + tooMany: api.ErrFull,
		} {
			checkWays(t, l, s, bare(err))
		}
	}
}

// rulesOf are all lists of up to two rules, each of up to two of the beginnings.
func rulesOf(beginnings []string) [][]api.Rule {
	var single []api.Rule
	for _, from := range beginnings {
		single = append(single, rule(from))
		for _, to := range beginnings {
			single = append(single, rule(from, to))
			for _, last := range beginnings {
				single = append(single, rule(from, to, last))
			}
		}
	}
	out := [][]api.Rule{nil}
	for _, r := range single {
		out = append(out, []api.Rule{r})
		for _, other := range single {
			out = append(out, []api.Rule{r, other})
		}
	}
	return out
}

// expected works the ways out as the document tells them, but by sorting, and by taking away.
func expected(l []api.Rule, s string) []string {
	fit := slices.DeleteFunc(slices.Clone(l), func(r api.Rule) bool { return !strings.HasPrefix(s, r.From) })
	sort.SliceStable(fit, func(i, j int) bool { return len(fit[i].From) > len(fit[j].From) })
	var all []string
	if len(fit) > 0 {
		for _, to := range fit[0].To {
			all = append(all, to+s[len(fit[0].From):])
		}
	}
	all = append(slices.DeleteFunc(all, func(x string) bool { return link.Check(x) != nil }), s)
	for i := len(all) - 1; i > 0; i-- {
		if slices.Index(all, all[i]) < i {
			all = slices.Delete(all, i, i+1)
		}
	}
	return all
}

func TestWaysOfAllSmallRules(t *testing.T) {
	several := 0
	for _, l := range rulesOf([]string{"http://a/", "http://a/x", "http://a/x/", "ftp://b//", "ftp://b/" + fullest}) {
		for _, s := range []string{"http://a/x", "http://a/xy", "http://a/x/y", "http://a/y", "ftp://b/" + fullest, "ftp://c/x"} {
			want := expected(l, s)
			checkWays(t, l, s, strings.Join(want, " "))
			checkAlways(t, l, s)
			if len(want) > 1 {
				several++
			}
		}
	}
	// Else little would be held, if the link were nearly always alone.
	if several < 1000 {
		t.Error(several)
	}
}

// P72

// checkAlways holds what is so of all ways to a link, whatever the rules.
func checkAlways(t *testing.T, l []api.Rule, s string) {
	t.Helper()
	ways, err := Ways(l, s)
	if err != nil {
		if len(ways) > 0 {
			t.Errorf("%v, %q: %q with %v", l, s, ways, err)
		}
		return
	}
	if len(ways) > api.MaxWays+1 || !slices.Contains(ways, s) {
		t.Errorf("%v, %q: %q", l, s, ways)
	}
	for i, way := range ways {
		if link.Check(way) != nil || slices.Index(ways, way) != i {
			t.Errorf("%v, %q: %q at %d", l, s, ways, i)
		}
	}
}

func TestEachWayIsALinkAndOneIsTheLinkItself(t *testing.T) {
	heads := []string{"http://a/", "ftp://" + longest + "/"}
	ends := []string{"", "/", "x", "x/", ".", "..x", "x.", longest, longest + "/", "a/b/c/d/e/", fullest, fullest + "/"}
	var beginnings, links []string
	for _, head := range heads {
		for _, end := range ends {
			if link.Begins(head+end) == nil {
				beginnings = append(beginnings, head+end)
			}
			for _, behind := range ends {
				if link.Check(head+end+behind) == nil {
					links = append(links, head+end+behind)
				}
			}
		}
	}
	for _, from := range beginnings {
		for i := 0; i < len(beginnings); i += api.MaxWays {
			l := []api.Rule{rule(from, beginnings[i:min(i+api.MaxWays, len(beginnings))]...)}
			for _, s := range links {
				if _, err := Ways(l, s); err != nil {
					t.Fatalf("%v, %q: %v", l, s, err)
				}
				checkAlways(t, l, s)
			}
		}
	}
}

// P3 and P4

// inMemory gives rules with something behind each list's end, and what they look like, that too.
func inMemory() (l []api.Rule, look func() string) {
	to := []string{"ftp://m/", "http://a/", "ftp://m/", "ftp://n/", "behind", ""}
	all := []api.Rule{{From: "http://a/", To: to[:4]}, {From: "http://b/", To: to[1:2]}, {From: "behind", To: to}, {}}
	return all[:2], func() string { return fmt.Sprintf("%q", all) }
}

func TestRulesAreOnlyRead(t *testing.T) {
	l, look := inMemory()
	first := look()
	for _, s := range []string{"http://a/p", "http://b/p", "http://c/p", "http://a/", ""} {
		if err := Check(l); err != nil {
			t.Fatal(err)
		}
		if _, err := Ways(l, s); (err != nil) != (link.Check(s) != nil) {
			t.Fatal(s, err)
		}
		if look() != first {
			t.Fatalf("%q: %s, before %s", s, look(), first)
		}
	}
}

func TestWaysAreNewMemory(t *testing.T) {
	l, look := inMemory()
	first := look()
	for s, want := range map[string]string{
		"http://a/p": "ftp://m/p http://a/p ftp://n/p",
		"http://b/p": "http://a/p http://b/p",
		"http://c/p": "http://c/p",
	} {
		for range 2 {
			x, err := Ways(l, s)
			if told(x, err) != want {
				t.Fatalf("%q: %q, %v, want %s", s, x, err, want)
			}
			for i := range x[:cap(x)] {
				x[:cap(x)][i] = "written"
			}
			if look() != first {
				t.Fatalf("%q: the answer is the memory of the rules", s)
			}
		}
	}
}

// P1

func FuzzNothingPanics(f *testing.F) {
	for _, s := range []string{"", "://", "http://a", "http://a/", "http://a//", "zip://A/", "http://a/x", "ftp://\xff/é", "http://a/" + tooMany} {
		f.Add(s, "http://a/x", "ftp://b/", "http://c/", "http://a/x/y")
		f.Add("http://a/", s, "ftp://b/", "http://c/", "http://a/x/y")
		f.Add("http://a/", "http://a/x", s, "http://c/", "http://a/x/y")
		f.Add("http://a/", "http://a/x", "ftp://b/", "http://c/p", s)
	}
	f.Fuzz(func(t *testing.T, from, other, to, last, s string) {
		l := []api.Rule{rule(from, to, last), rule(other, last)}
		checkAlways(t, l, s)
		if bad := Check(l); bad != nil {
			checkWays(t, l, s, bare(bad))
		} else if err := link.Check(s); err != nil {
			checkWays(t, l, s, bare(err))
		} else {
			checkWays(t, l, s, strings.Join(expected(l, s), " "))
		}
	})
}
