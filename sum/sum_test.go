package sum

import (
	"math/big"
	"strings"
	"testing"

	"chandlery/api"
)

// The errors are held against each other by ==, not errors.Is: no call of this package tells a place, so each error is bare.

const (
	last    = 1000000006 // the greatest sum
	most    = 1073741824 // bytes that a second text may have
	biggest = int(^uint(0) >> 1)
)

// texts that are ordinary, at the edges, or long.
func texts() []string {
	out := []string{"", "a", "b", "ab", "ba", "hello", "hello ", "\x00", "\x00\x00", "\xff", "\xff\xff\xff\xff", "a\nb\n", "é", "s0"}
	return append(out, strings.Repeat("chandlery ", 100), strings.Repeat("\x00", 1000), strings.Repeat("\xff", 999), strings.Repeat("x", api.MaxSource))
}

// worked is a sum by the whole number that the bytes write, each and 1 more, to the base 263: only the end is taken modulo.
func worked(s string) int {
	n := new(big.Int)
	for _, b := range []byte(s) {
		n.Mul(n, big.NewInt(263))
		n.Add(n, big.NewInt(int64(b)+1))
	}
	return int(n.Mod(n, big.NewInt(1000000007)).Int64())
}

// joined is what two sums give, by whole numbers.
func joined(a, b, n int) int {
	p := big.NewInt(1000000007)
	x := new(big.Int).Exp(big.NewInt(263), big.NewInt(int64(n)), p)
	x.Mul(x, big.NewInt(int64(a)))
	x.Add(x, big.NewInt(int64(b)))
	return int(x.Mod(x, p).Int64())
}

// P30

func TestOf(t *testing.T) {
	for s, want := range map[string]int{
		"":                     0,
		"\x00":                 1,
		"\x00\x00":             264,
		"\x00\x00\x00":         69433,
		"\x01":                 2,
		"a":                    98,
		"ab":                   25873,
		"ba":                   26135,
		"\xff":                 256,
		"\xff\xff":             67584,
		"é":                    196*263 + 170,
		"\xff\xff\xff":         17774848,
		"\xff\xff\xff\xff":     674785252, // the first beyond the modulus
		"\xff\xff\xff\xff\xff": 468520293,
	} {
		if n := Of(s); n != want || worked(s) != want {
			t.Errorf("%q: %d, by whole numbers %d, want %d", s, n, worked(s), want)
		}
	}
	for _, s := range texts() {
		if n := Of(s); n != worked(s) {
			t.Errorf("%.40q: %d, want %d", s, n, worked(s))
		}
	}
}

func TestOfEachByte(t *testing.T) {
	for b := range 256 {
		if n := Of(string([]byte{byte(b)})); n != b+1 {
			t.Errorf("byte %d: %d", b, n)
		}
	}
}

func checkJoin(t *testing.T, a, b, n, want int) {
	t.Helper()
	if x, err := Join(a, b, n); x != want || err != nil {
		t.Errorf("%d, %d, %d: %d, %v, want %d", a, b, n, x, err, want)
	}
}

func TestJoin(t *testing.T) {
	for _, c := range [][4]int{
		{0, 0, 0, 0},
		{0, 5, 0, 5},
		{5, 0, 0, 5},
		{98, 0, 0, 98},
		{98, 99, 1, 98*263 + 99},
		{1, 0, 1, 263},
		{1, 0, 2, 69169},
		{1, 0, 3, 18191447},
		{last, last, 0, last - 1},
		{last, 1, 0, 0},
		{last, 263, 1, 0},
		{0, 5, most, 5},
		{0, last, most, last},
		// The modulus is a prime: with as many bytes the power is 1 again.
		{1, 0, 1000000006, 1},
		{last, 0, 1000000006, last},
		{1, 0, 1000000007, 263},
	} {
		checkJoin(t, c[0], c[1], c[2], c[3])
	}
}

func TestJoinByWholeNumbers(t *testing.T) {
	sums := []int{0, 1, 2, 262, 263, 98, 25873, 1 << 29, 999999999, last - 1, last}
	lengths := []int{0, 1, 2, 3, 4, 5, 6, 7, 8, 15, 16, 17, 1000, 65535, 65536, 1000000005, 1000000006, 1000000007, most - 1, most}
	for _, a := range sums {
		for _, b := range sums {
			for _, n := range lengths {
				checkJoin(t, a, b, n, joined(a, b, n))
			}
		}
	}
}

func TestJoinTellsBounds(t *testing.T) {
	for _, c := range [][3]int{
		{-1, 0, 0}, {last + 1, 0, 0}, {biggest, 0, 0}, {-biggest - 1, 0, 0},
		{0, -1, 0}, {0, last + 1, 0}, {0, biggest, 0}, {0, -biggest - 1, 0},
		{0, 0, -1}, {0, 0, most + 1}, {0, 0, biggest}, {0, 0, -biggest - 1},
		{5, 6, -1}, {5, 6, most + 1}, {5, last + 1, 7}, {-1, 6, 7},
		{-1, -1, -1}, {biggest, biggest, biggest}, {-biggest - 1, -biggest - 1, -biggest - 1},
	} {
		if x, err := Join(c[0], c[1], c[2]); x != 0 || err != api.ErrBound {
			t.Errorf("%v: %d, %v", c, x, err)
		}
	}
}

func TestTextAndRead(t *testing.T) {
	for s, want := range map[string]int{
		"s0": 0, "s1": 1, "s9": 9, "s10": 10, "s98": 98, "s100": 100, "s25873": 25873, "s999999999": 999999999, "s1000000000": 1000000000, "s1000000005": last - 1, "s1000000006": last,
	} {
		if text := Text(want); text != s {
			t.Errorf("%d: %q, want %q", want, text, s)
		}
		if n, err := Read(s); n != want || err != nil {
			t.Errorf("%q: %d, %v, want %d", s, n, err, want)
		}
	}
}

func TestTextOfNoSum(t *testing.T) {
	for _, n := range []int{-1, -98, last + 1, last + 2, biggest, -biggest - 1} {
		if s := Text(n); s != "" {
			t.Errorf("%d: %q", n, s)
		}
	}
}

func TestReadTellsTexts(t *testing.T) {
	for _, s := range []string{
		"", "s", "ss", "0", "98", "S0", "t0", "ss0", "s s0", "ſ0",
		"s00", "s01", "s000000000001", "s01000000006",
		"s-1", "s-0", "s+0", "s+1", "s--1",
		"s1000000007", "s1000000010", "s2000000000", "s10000000006", "s4294967296", "s9223372036854775807", "s9223372036854775808", "s18446744073709551616", "s" + strings.Repeat("9", 5000), "s" + strings.Repeat("0", 5000),
		" s1", "s 1", "s1 ", "s1\n", "\ns1", "s1\x00", "s1x", "s1s", "s1,2", "s1.0", "s1e3", "s0x1", "s0b1", "s1_0", "s１", "s\xff", "s1\xff",
	} {
		if n, err := Read(s); n != 0 || err != api.ErrText {
			t.Errorf("%.40q: %d, %v", s, n, err)
		}
	}
}

func TestReadOfEachByte(t *testing.T) {
	for b := range 256 {
		one := string([]byte{byte(b)})
		digit := '0' <= b && b <= '9'
		for s, right := range map[string]bool{one + "7": b == 's', "s" + one: digit, "s4" + one: digit, "s" + one + "4": digit && b != '0', "s4" + one + "2": digit} {
			n, err := Read(s)
			if (err == nil) != right || right && Text(n) != s || !right && (n != 0 || err != api.ErrText) {
				t.Errorf("%q: %d, %v", s, n, err)
			}
		}
	}
}

// P31

// checkCuts holds the sum of a whole text against those of its two pieces, wherever it is cut.
func checkCuts(t *testing.T, s string, step int) {
	t.Helper()
	want := Of(s)
	for at := 0; at <= len(s); at += step {
		if x, err := Join(Of(s[:at]), Of(s[at:]), len(s)-at); x != want || err != nil {
			t.Errorf("%.40q cut at %d: %d, %v, want %d", s, at, x, err, want)
		}
	}
}

func TestTheSumOfTwoIsThatOfBoth(t *testing.T) {
	for _, a := range texts() {
		checkCuts(t, a, 1+len(a)/50)
		for _, b := range texts() {
			if x, err := Join(Of(a), Of(b), len(b)); x != Of(a+b) || err != nil {
				t.Errorf("%.40q, %.40q: %d, %v", a, b, x, err)
			}
		}
	}
	checkCuts(t, strings.Repeat("\xfe\x00a", api.MaxBytes/3), api.MaxBytes/5)
}

func TestThreeAreJoinedInAnyOrder(t *testing.T) {
	for _, n := range []int{0, 1, 500, most / 2} {
		for _, m := range []int{0, 3, 70000, most / 2} {
			ab, _ := Join(98, last, n)
			left, e1 := Join(ab, 12345, m)
			bc, _ := Join(last, 12345, m)
			right, e2 := Join(98, bc, n+m)
			if left != right || e1 != nil || e2 != nil {
				t.Errorf("%d, %d: %d, %v and %d, %v", n, m, left, e1, right, e2)
			}
		}
	}
}

func TestWithAnotherByteItIsAnother(t *testing.T) {
	for _, s := range []string{"a", "ab", "hello", "\x00\x00\x00", "\xff\xff\xff\xff", strings.Repeat("chandlery ", 20)} {
		for at := range len(s) {
			checkByte(t, s, at)
		}
	}
	long := strings.Repeat("x", api.MaxSource)
	for _, at := range []int{0, 1, api.MaxSource / 2, api.MaxSource - 1} {
		checkByte(t, long, at)
	}
}

// checkByte puts each byte in one place of a text: all the sums differ.
func checkByte(t *testing.T, s string, at int) {
	t.Helper()
	seen := map[int]int{}
	for b := range 256 {
		n := Of(s[:at] + string([]byte{byte(b)}) + s[at+1:])
		if other, there := seen[n]; there {
			t.Errorf("%.40q: bytes %d and %d at %d: both %d", s, other, b, at, n)
		}
		seen[n] = b
	}
}

func TestZerosAreNotLost(t *testing.T) {
	seen := map[int]int{}
	for n := range 2000 {
		x := Of(strings.Repeat("\x00", n))
		if other, there := seen[x]; there {
			t.Errorf("%d and %d zeros: both %d", other, n, x)
		}
		seen[x] = n
	}
}

// P1

func FuzzNothingPanicsAndSumsStay(f *testing.F) {
	f.Add("", "", 0, 0, 0)
	f.Add("hello ", "s98", last, last, most)
	f.Add("s01", "\xff\x00", -1, last+1, most+1)
	f.Add("s+1", "s1000000007", biggest, -biggest-1, biggest)
	f.Fuzz(func(t *testing.T, s, more string, a, b, n int) {
		if x, err := Join(Of(s), Of(more), len(more)); x != Of(s+more) || err != nil {
			t.Errorf("%q, %q: %d, %v", s, more, x, err)
		}
		if back, err := Read(Text(Of(s))); back != Of(s) || err != nil {
			t.Errorf("%q: read again %d, %v", s, back, err)
		}
		if x, err := Read(s); err == nil && Text(x) != s || err != nil && (x != 0 || err != api.ErrText) {
			t.Errorf("%q: %d, %v", s, x, err)
		}
		right := a >= 0 && a <= last && b >= 0 && b <= last && n >= 0 && n <= most
		x, err := Join(a, b, n)
		if right && (err != nil || x != joined(a, b, n)) || !right && (x != 0 || err != api.ErrBound) {
			t.Errorf("%d, %d, %d: %d, %v", a, b, n, x, err)
		}
		if s := Text(a); (s == "") != (a < 0 || a > last) {
			t.Errorf("%d: %q", a, s)
		}
	})
}
