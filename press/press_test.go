package press

import (
	"errors"
	"fmt"
	"math"
	"regexp"
	"strings"
	"testing"

	"chandlery/api"
)

func repeat(b byte, n int) string { return strings.Repeat(string([]byte{b}), n) }

// told is an error in one text: so a bare error differs from one with a place, and from another error.
func told(err error) string {
	if f, ok := err.(*api.Fault); ok {
		return fmt.Sprintf("%v at %d", f.Err, f.At)
	}
	return fmt.Sprint(err)
}

func textAt(at int) string { return fmt.Sprintf("%v at %d", api.ErrText, at) }

// pressed are texts, and how they are pressed.
func pressed() map[string]string {
	return map[string]string{
		"":                           "",
		"a":                          "1:a",
		"aa":                         "2:a",
		"ab":                         "1:a1:b",
		"aaab":                       "3:a1:b",
		"abbb":                       "1:a3:b",
		"aba":                        "1:a1:b1:a",
		"aabbaa":                     "2:a2:b2:a",
		":":                          "1::",
		"::":                         "2::",
		":::a:":                      "3::1:a1::",
		"0":                          "1:0",
		"000":                        "3:0",
		"1":                          "1:1",
		"11":                         "2:1",
		"1122":                       "2:12:2",
		"1:1":                        "1:11::1:1",
		"3:a1:b":                     "1:31::1:a1:11::1:b",
		"\n\n\n":                     "3:\n",
		"\r\n":                       "1:\r1:\n",
		"  ":                         "2: ",
		"\x00\x00":                   "2:\x00",
		"\x00\xff":                   "1:\x001:\xff",
		"\xff\xff\xfe":               "2:\xff1:\xfe",
		"é":                          "1:\xc31:\xa9",
		"éé":                         "1:\xc31:\xa91:\xc31:\xa9",
		"\x7f\x7f\x80\x80":           "2:\x7f2:\x80",
		repeat('x', 9):               "9:x",
		repeat('x', 10):              "10:x",
		repeat('x', 11):              "11:x",
		repeat('0', 100):             "100:0",
		repeat(':', 1234):            "1234::",
		repeat('x', 20000) + "y":     "20000:x1:y",
		"y" + repeat('x', 1000000):   "1:y1000000:x",
		strings.Repeat("ab", 500):    strings.Repeat("1:a1:b", 500),
		strings.Repeat("aab", 500):   strings.Repeat("2:a1:b", 500),
		"a/b x 2\nhi\n":              "1:a1:/1:b1: 1:x1: 1:21:\n1:h1:i1:\n",
		repeat('a', 99) + "\x00\x01": "99:a1:\x001:\x01",
	}
}

// P50

func checkOpen(t *testing.T, s string, most int, want string) {
	t.Helper()
	if x, err := Open(s, most); x != want || err != nil {
		t.Errorf("%.80q, at most %d: %.80q, %v, want %.80q", s, most, x, err, want)
	}
}

func checkSize(t *testing.T, s string, want int) {
	t.Helper()
	if n, err := Size(s); n != want || err != nil {
		t.Errorf("%.80q: %d, %v, want %d", s, n, err, want)
	}
}

// checkFull holds that ErrFull is told, bare, and nothing beside it.
func checkFull(t *testing.T, s string, most int) {
	t.Helper()
	if x, err := Open(s, most); x != "" || err != api.ErrFull {
		t.Errorf("%.80q, at most %d: %.80q, %v", s, most, x, err)
	}
}

// checkWrong holds that a text is wrong at a byte, however little or much may be opened.
func checkWrong(t *testing.T, s string, at int) {
	t.Helper()
	if n, err := Size(s); n != 0 || told(err) != textAt(at) {
		t.Errorf("%.80q: %d, %s, want %s", s, n, told(err), textAt(at))
	}
	for _, most := range []int{math.MinInt, -1, 0, 1, 99, api.MaxSource, math.MaxInt} {
		if x, err := Open(s, most); x != "" || told(err) != textAt(at) {
			t.Errorf("%.80q, at most %d: %.80q, %s, want %s", s, most, x, told(err), textAt(at))
		}
	}
}

// checkEdges opens a text with all that may be opened around its size.
func checkEdges(t *testing.T, s, want string) {
	t.Helper()
	n := len(want)
	checkSize(t, s, n)
	for _, most := range []int{n, n + 1, 2*n + 5, math.MaxInt} {
		checkOpen(t, s, most, want)
	}
	for _, most := range []int{n - 1, -1, -n - 1, math.MinInt} {
		checkFull(t, s, most)
	}
}

func TestPressSizeAndOpen(t *testing.T) {
	for s, want := range pressed() {
		if got := Press(s); got != want {
			t.Errorf("%.80q: %.80q, want %.80q", s, got, want)
		}
		checkEdges(t, want, s)
	}
}

func TestEachByte(t *testing.T) {
	for b := range 256 {
		for _, n := range []int{1, 2, 9, 10, 11, 99, 100, 999, 1000} {
			s := repeat(byte(b), n)
			want := fmt.Sprintf("%d:%s", n, s[:1])
			if got := Press(s); got != want {
				t.Errorf("byte %d, %d times: %q", b, n, got)
			}
			checkEdges(t, want, s)
			checkEdges(t, "2:+"+want+"1:-", "++"+s+"-")
		}
	}
}

func TestRunsOfOneByteBehindEachOtherAreOpened(t *testing.T) {
	for s, want := range map[string]string{
		"1:a1:a":           "aa",
		"2:a3:a":           "aaaaa",
		"1:a2:a1:b3:b":     "aaabbbb",
		"9:01:0":           repeat('0', 10),
		"1:12:11:1":        "1111",
		"1::2::":           ":::",
		"10:x20:x30:y40:y": repeat('x', 30) + repeat('y', 70),
	} {
		checkEdges(t, s, want)
	}
}

// wrong texts, and the byte at which something is none.
func wrong() map[string]int {
	return map[string]int{
		// No digit.
		"a": 0, ":": 0, ":a": 0, "::": 0, " ": 0, "\x00": 0, "\xff": 0, "\n": 0, "a1:a": 0, " 1:a": 0, "-1:a": 0, "+1:a": 0, "-": 0, "/1:a": 0, "１:a": 0, "é": 0,
		// A needless zero, or none at all.
		"0": 0, "0:": 0, "0:a": 0, "00:a": 0, "01:a": 0, "010:a": 0, "000000001:a": 0, "0000000001:a": 0, "0x1:a": 0, "0a": 0,
		// No colon.
		"1": 1, "12": 2, "1a": 1, "1 :a": 1, "1 a": 1, "1;a": 1, "1/a": 1, "1\x00": 1, "1\xff": 1, "1.0:a": 1, "1e3:a": 1, "1_0:a": 1, "1,0:a": 1, "1-:a": 1, "1x:a": 1, "12a:b": 2, "10": 2, "1：a": 1,
		// Too many digits.
		"123456789": 9, "1234567890": 9, "1234567890:a": 9, "1000000000:a": 9, "9999999999:a": 9, "12345678901234567890:a": 9, "999999999a": 9, "1" + repeat('0', 5000): 9, repeat('9', 5000) + ":a": 9, "4294967297:a": 9, "18446744073709551617:a": 9,
		// No byte.
		"1:": 2, "12:": 3, "123456789:": 10,
		// Behind what is right.
		"1:a:": 3, "1:aa": 3, "1:a ": 3, "1:a\n": 3, "1:a0": 3, "1:a0:b": 3, "1:a01:b": 3, "1:a1": 4, "1:a1b": 4, "1:a1:": 5, "12:a3": 5, "1:a2:b3:": 8, "1:a2:b3": 7, "1:::": 3, "1::::": 3, "1::1:": 5, "2:12:22": 7, "1:a1234567890:b": 12, "1:a-1:b": 3,
		"999999999:x0:y": 11, "999999999:x999999999:": 21,
		"1:é": 3, "1:日": 3,
		// The first of several.
		"0:a0:b": 0, "1:a0:b1": 3, "1a1a": 1, "1:ab:": 3,
	}
}

func TestWrongTexts(t *testing.T) {
	for s, at := range wrong() {
		checkWrong(t, s, at)
		for _, ahead := range []string{"1:a", "2:13::", "999999999:\x00", strings.Repeat("12:x", 300)} {
			checkWrong(t, ahead+s, len(ahead)+at)
		}
	}
}

// whole and begun are right texts, and beginnings of such, told by the form alone.
var (
	whole = regexp.MustCompile(`^(?s:[1-9][0-9]{0,8}:.)*$`)
	begun = regexp.MustCompile(`^(?s:[1-9][0-9]{0,8}:.)*([1-9][0-9]{0,8}:?)?$`)
)

// checkForm holds a text against the form: it is wrong just behind the longest piece that a right text could begin with.
func checkForm(t *testing.T, s string) {
	t.Helper()
	if whole.MatchString(s) {
		if n, err := Size(s); err != nil || n < len(s)/11 {
			t.Errorf("%q: %d, %v", s, n, err)
		}
		return
	}
	at := len(s)
	for !begun.MatchString(s[:at]) {
		at--
	}
	if n, err := Size(s); n != 0 || told(err) != textAt(at) {
		t.Errorf("%q: %d, %s, want %s", s, n, told(err), textAt(at))
	}
	if x, err := Open(s, api.MaxSource); x != "" || told(err) != textAt(at) {
		t.Errorf("%q: %.80q, %s, want %s", s, x, told(err), textAt(at))
	}
}

// eachText hands on all texts of some bytes, up to a length.
func eachText(bytes string, length int, do func(string)) {
	texts := []string{""}
	for range length + 1 {
		var longer []string
		for _, s := range texts {
			do(s)
			for i := range len(bytes) {
				longer = append(longer, s+bytes[i:i+1])
			}
		}
		texts = longer
	}
}

func TestAllSmallTextsByTheForm(t *testing.T) {
	eachText("012:a", 6, func(s string) {
		checkForm(t, s)
		checkForm(t, "12345"+s)
		checkForm(t, "3:x"+s)
	})
}

func TestFaultsAreWrapped(t *testing.T) {
	_, e1 := Size("1:a0:b")
	_, e2 := Open("1:a0:b", 9)
	for _, err := range []error{e1, e2} {
		var f *api.Fault
		if !errors.Is(err, api.ErrText) || !errors.As(err, &f) || f.At != 3 || f.Err != api.ErrText {
			t.Error(err)
		}
	}
}

// P51

func checkRound(t *testing.T, s string) {
	t.Helper()
	made := Press(s)
	checkSize(t, made, len(s))
	checkOpen(t, made, len(s), s)
	checkFull(t, made, len(s)-1)
}

func TestWhatIsPressedIsOpenedAsItWas(t *testing.T) {
	seen := map[string]bool{}
	eachText("a1:\x00", 6, func(s string) {
		checkRound(t, s)
		made := Press(s)
		if seen[made] {
			t.Errorf("%q is made twice", made)
		}
		seen[made] = true
		// What is pressed is a text like any other.
		checkRound(t, made)
	})
	for s := range pressed() {
		checkRound(t, s)
		checkRound(t, Press(Press(s)))
	}
	for s := range wrong() {
		checkRound(t, s)
	}
	for a := range 256 {
		for b := range 256 {
			checkRound(t, string([]byte{byte(a), byte(b), byte(b), byte(a)}))
		}
	}
	for n := range 1100 {
		checkRound(t, repeat('x', n)+repeat('9', 1100-n))
	}
}

// checkOpened holds what is opened of any text: it has its size, and it is never too much.
func checkOpened(t *testing.T, s string, most int) {
	t.Helper()
	n, bad := Size(s)
	x, err := Open(s, most)
	switch {
	case bad != nil:
		if n != 0 || x != "" || told(err) != told(bad) {
			t.Errorf("%.80q, at most %d: %d, %.80q, %s and %s", s, most, n, x, told(bad), told(err))
		}
	case n > most:
		if x != "" || err != api.ErrFull {
			t.Errorf("%.80q, at most %d: %.80q, %v", s, most, x, err)
		}
	case err != nil || len(x) != n:
		t.Errorf("%.80q, at most %d: %d bytes, %v, want %d", s, most, len(x), err, n)
	default:
		checkRound(t, x)
	}
}

func TestOfAPressedTextThatIsCutOrChanged(t *testing.T) {
	const s = "12:a1::3:3345:\x0010:0"
	ends := map[int]bool{0: true, 4: true, 7: true, 10: true, 15: true, len(s): true}
	for at := range len(s) + 1 {
		if ends[at] {
			checkOpened(t, s[:at], 400)
		} else {
			checkWrong(t, s[:at], at)
		}
		for b := range 256 {
			one := string([]byte{byte(b)})
			checkOpened(t, s[:at]+one+s[at:], 400)
			checkOpened(t, s[:at]+one+s[min(at+1, len(s)):], 400)
		}
	}
}

func TestMuchIsToldAndNotOpened(t *testing.T) {
	for n := 1; n <= 100000; n *= 10 {
		s := strings.Repeat("999999999:x", n)
		checkSize(t, s, n*999999999)
		for _, most := range []int{0, api.MaxSource, api.MaxBytes, 999999998} {
			checkFull(t, s, most)
			checkFull(t, "1:a"+s+"1:b", most)
		}
		checkFull(t, s, n*999999999-1)
		checkWrong(t, s+"1", len(s)+1)
	}
}

func TestWhatWrapsRoundIsNotOpened(t *testing.T) {
	for _, c := range [][3]int{{0, 1, 1}, {5, 999999999, 1000000004}, {math.MaxInt - 5, 4, math.MaxInt - 1}, {math.MaxInt - 5, 5, math.MaxInt}, {math.MaxInt - 5, 6, math.MaxInt}, {math.MaxInt, 1, math.MaxInt}, {math.MaxInt, 999999999, math.MaxInt}} {
		if n := add(c[0], c[1]); n != c[2] {
			t.Errorf("%d and %d: %d, want %d", c[0], c[1], n, c[2])
		}
	}
	// Each is a few bytes more than 32 bits can tell.
	for _, last := range []string{"294967301", "294967300", "294967396"} {
		checkFull(t, strings.Repeat("999999999:x", 4)+last+":y", api.MaxSource)
	}
}

func TestMoreThanAnyMemoryHasIsNotOpened(t *testing.T) {
	s := strings.Repeat("999999999:x", 1<<20)
	checkFull(t, s, math.MaxInt)
	checkWrong(t, s+"0", len(s))
}

func TestRunsArePiecesOfWhatDigitsCanTell(t *testing.T) {
	for s, want := range map[string]string{"": "", "a": "1a", "aaa": "3a", "aaaa": "3a1a", "aaab": "3a1b", "aaaaaaa": "3a3a1a", "baaaab": "1b3a1a1b"} {
		got := ""
		eachRun(s, 3, func(times int, b byte) { got += fmt.Sprintf("%d%c", times, b) })
		if got != want {
			t.Errorf("%q: %q, want %q", s, got, want)
		}
	}
}

// The longest run that digits can tell is pressed as one, and what is longer is opened as it was, too.
func TestTheLongestRuns(t *testing.T) {
	if testing.Short() {
		t.Skip("takes gigabytes")
	}
	const nines = 999999999
	all := repeat('x', nines+2)
	for _, c := range []struct {
		n    int
		want string
	}{{nines, "999999999:x"}, {nines + 1, "999999999:x1:x"}, {nines + 2, "999999999:x2:x"}} {
		if got := Press(all[:c.n]); got != c.want {
			t.Errorf("%d bytes: %.80q, want %q", c.n, got, c.want)
		}
		checkSize(t, c.want, c.n)
		checkFull(t, c.want, c.n-1)
	}
	checkOpen(t, "999999999:x2:x", len(all), all)
}

// P1

func FuzzNothingPanicsAndTextsStay(f *testing.F) {
	for s, p := range pressed() {
		f.Add(s, len(s))
		f.Add(p, len(s)-1)
	}
	for s := range wrong() {
		f.Add(s, 99)
	}
	f.Add("999999999:x", math.MinInt)
	f.Fuzz(func(t *testing.T, s string, most int) {
		checkRound(t, s)
		// Much may be told, but a test opens little.
		checkOpened(t, s, min(most, api.MaxBytes))
	})
}
