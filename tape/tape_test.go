package tape

import (
	"fmt"
	"math"
	"slices"
	"strconv"
	"strings"
	"testing"

	"chandlery/api"
	"chandlery/plain"
)

// told is an error in one text: so a bare error differs from one with a place, and from another error.
func told(err error) string {
	if err == nil {
		return ""
	}
	_, at := plain.Code(err)
	return fmt.Sprintf("%T %v at %d", err, err, at)
}

func check(t *testing.T, what string, err, want error) {
	t.Helper()
	if told(err) != told(want) {
		t.Errorf("%s: %q, want %q", what, told(err), told(want))
	}
}

func must(t *testing.T, err error) {
	t.Helper()
	if err != nil {
		t.Fatal(err)
	}
}

func diskOf(t *testing.T, b string) *Disk {
	t.Helper()
	d, err := NewDisk(b)
	must(t, err)
	return d
}

// written is a disk of records.
func written(t *testing.T, l ...string) *Disk {
	t.Helper()
	d := diskOf(t, "")
	for _, s := range l {
		must(t, Append(d, s))
	}
	return d
}

// holds tells what bytes a disk has, and whether there is power.
func holds(t *testing.T, what string, d *Disk, b string, power bool) {
	t.Helper()
	if d.Bytes() != b || d.Power() != power {
		t.Errorf("%s: %s, power %v, want %s, %v", what, brief(d.Bytes()), d.Power(), brief(b), power)
	}
}

// reads tells what is read of some bytes: records, and how many bytes they have.
func reads(t *testing.T, b string, want []string, bytes int) {
	t.Helper()
	l, n := Read(b)
	if !slices.Equal(l, want) || n != bytes {
		t.Errorf("%s: %s of %d bytes, want %s of %d", brief(b), brief(fmt.Sprintf("%q", l)), n, brief(fmt.Sprintf("%q", want)), bytes)
	}
}

// recovers tells what is recovered, and that its bytes are all that stays.
func recovers(t *testing.T, what string, d *Disk, want []string) {
	t.Helper()
	before := d.Bytes()
	l, err := Recover(d)
	if err != nil || !slices.Equal(l, want) {
		t.Errorf("%s: recovered %s, %v, want %s", what, brief(fmt.Sprintf("%q", l)), err, brief(fmt.Sprintf("%q", want)))
	}
	if n := lengthOf(want...); n <= len(before) {
		holds(t, what, d, before[:n], true)
	}
}

func brief(s string) string {
	if len(s) <= 80 {
		return strconv.Quote(s)
	}
	return fmt.Sprintf("%q.. (%d)", s[:80], len(s))
}

// wholeOf a text is its record, built byte by byte.
func wholeOf(s string) string {
	digits := ""
	for n := len(s); n > 0 || digits == ""; n /= 10 {
		digits = string(rune('0'+n%10)) + digits
	}
	return digits + string(rune(58)) + s + string(rune(10)) + string(rune(46))
}

func lengthOf(l ...string) int {
	n := 0
	for _, s := range l {
		n += len(wholeOf(s))
	}
	return n
}

func wholesOf(l ...string) string {
	var out strings.Builder
	for _, s := range l {
		out.WriteString(wholeOf(s))
	}
	return out.String()
}

// everyByte in one text.
func everyByte() string {
	var out []byte
	for b := range 256 {
		out = append(out, byte(b))
	}
	return string(out)
}

// texts of all sorts: also such as look like records, or parts of them.
func texts() []string {
	out := []string{"", "x", "\n", ".", "\n.", ":", "0", "0:\n.", "1:x\n.", "3:", "a\n.b", "\x00", "\xff\xfe", "ü", everyByte()}
	for _, n := range []int{9, 10, 11, 99, 100, 999, 1000, 9999, 10000, api.MaxSource - 1, api.MaxSource} {
		out = append(out, strings.Repeat("x", n), strings.Repeat("\n.", n/2))
	}
	return out
}

// P130: a disk

func TestNewDisk(t *testing.T) {
	for _, n := range []int{0, 1, 4, api.MaxSource + 1, api.MaxBytes - 1, api.MaxBytes} {
		b := strings.Repeat("x", n)
		d, err := NewDisk(b)
		check(t, fmt.Sprint(n), err, nil)
		holds(t, fmt.Sprint(n), d, b, true)
	}
	holds(t, "bytes", diskOf(t, everyByte()), everyByte(), true)
	for _, n := range []int{api.MaxBytes + 1, api.MaxBytes + 4, 2 * api.MaxBytes} {
		d, err := NewDisk(strings.Repeat("x", n))
		check(t, fmt.Sprint(n), err, api.ErrBound)
		if d != nil {
			t.Errorf("%d: a disk beside the error", n)
		}
	}
}

// Nothing waits on a new disk: all that has room is written.
func TestNewDiskWaitsForNothing(t *testing.T) {
	d := diskOf(t, "")
	for range 40 {
		must(t, Append(d, strings.Repeat("x", api.MaxSource)))
	}
	holds(t, "new", d, strings.Repeat(wholeOf(strings.Repeat("x", api.MaxSource)), 40), true)
}

func TestDisksAreApart(t *testing.T) {
	a, b := diskOf(t, "same"), diskOf(t, "same")
	must(t, Append(a, "x"))
	must(t, b.Cut(0))
	holds(t, "a", a, "same1:x\n.", true)
	check(t, "b", Append(b, "x"), api.ErrOff)
	holds(t, "a", a, "same1:x\n.", true)
	holds(t, "b", b, "same", false)
}

// P4: bytes that were answered stay as they were.
func TestBytesAreNotTheDisk(t *testing.T) {
	d := written(t, "first", "second")
	must(t, d.Cut(3))
	check(t, "torn", Append(d, "third"), api.ErrOff)
	before := d.Bytes()
	copied := strings.Clone(before)
	recovers(t, "torn", d, []string{"first", "second"})
	must(t, Append(d, "another"))
	if before != copied {
		t.Errorf("%q, and it was %q", before, copied)
	}
	if d.Bytes() != d.Bytes() {
		t.Error("asked twice, it is not the same")
	}
}

// P130: a record

func TestAppend(t *testing.T) {
	for _, s := range texts() {
		for _, b := range []string{"", "x", "0:\n.", "1:"} {
			d := diskOf(t, b)
			check(t, brief(s), Append(d, s), nil)
			holds(t, brief(s), d, b+wholeOf(s), true)
		}
	}
}

// The form, told in full.
func TestForm(t *testing.T) {
	d := written(t, "", "x", "a\n.b", "0123456789", "ü")
	holds(t, "form", d, "0:\n.1:x\n.4:a\n.b\n.10:0123456789\n.2:ü\n.", true)
	long := strings.Repeat("y", 20000)
	holds(t, "long", written(t, long), "20000:"+long+"\n.", true)
}

func TestAppendToNone(t *testing.T) {
	for _, s := range []string{"", "x", strings.Repeat("x", api.MaxSource+1)} {
		check(t, brief(s), Append(nil, s), api.ErrShape)
	}
}

func TestAppendBound(t *testing.T) {
	for _, n := range []int{api.MaxSource + 1, api.MaxSource + 2, api.MaxBytes, 3 * api.MaxBytes} {
		d := written(t, "x")
		check(t, fmt.Sprint(n), Append(d, strings.Repeat("x", n)), api.ErrBound)
		holds(t, fmt.Sprint(n), d, wholeOf("x"), true)
	}
}

func TestAppendFull(t *testing.T) {
	for _, s := range texts() {
		room := len(wholeOf(s))
		for _, more := range []int{0, 1, room - 1} {
			b := strings.Repeat("x", api.MaxBytes-room+more)
			d := diskOf(t, b)
			if more == 0 {
				check(t, "just room for "+brief(s), Append(d, s), nil)
				holds(t, brief(s), d, b+wholeOf(s), true)
				check(t, "no room any more", Append(d, ""), api.ErrFull)
				holds(t, brief(s), d, b+wholeOf(s), true)
				continue
			}
			check(t, fmt.Sprintf("%d too few for %s", more, brief(s)), Append(d, s), api.ErrFull)
			holds(t, brief(s), d, b, true)
		}
	}
	d := diskOf(t, strings.Repeat("x", api.MaxBytes))
	check(t, "full", Append(d, ""), api.ErrFull)
}

// A shorter one may still have room behind one that has none.
func TestAppendBehindFull(t *testing.T) {
	b := strings.Repeat("x", api.MaxBytes-9)
	d := diskOf(t, b)
	check(t, "6", Append(d, "123456"), api.ErrFull)
	check(t, "5", Append(d, "12345"), nil)
	holds(t, "5", d, b+wholeOf("12345"), true)
}

// The first error named is told, whatever else is so.
func TestOrderOfErrors(t *testing.T) {
	long, full := strings.Repeat("x", api.MaxSource+1), strings.Repeat("x", api.MaxBytes-4)
	for _, cut := range []int{-1, 0, 3, 4, 5} {
		for _, c := range []struct {
			s    string
			want error
		}{{long, api.ErrBound}, {"x", api.ErrFull}} {
			d := diskOf(t, full)
			if cut >= 0 {
				must(t, d.Cut(cut))
			}
			what := fmt.Sprintf("%s, cut %d", brief(c.s), cut)
			check(t, what, Append(d, c.s), c.want)
			holds(t, what, d, full, true)
			// Nor was any of the bytes ahead of the Cut taken.
			if cut >= 4 {
				check(t, what, Append(d, ""), nil)
			}
		}
	}
	d := diskOf(t, full)
	must(t, d.Cut(0))
	check(t, "fails", Append(d, ""), api.ErrOff)
	check(t, "off and bound", Append(d, long), api.ErrBound)
	check(t, "off and full", Append(d, "x"), api.ErrFull)
	check(t, "off", Append(d, ""), api.ErrOff)
	check(t, "off and below 0", d.Cut(-1), api.ErrBound)
	check(t, "off", d.Cut(0), api.ErrOff)
	holds(t, "off", d, full, false)
}

// P130: Cut

// Wherever power fails in a record, the bytes ahead are written; one of just so many is whole.
func TestCutInOne(t *testing.T) {
	for _, s := range []string{"", "x", "hello", "a\n.b", strings.Repeat("x", 10), strings.Repeat("\n.", 60)} {
		whole := wholeOf(s)
		for n := range len(whole) + 3 {
			for _, b := range []string{"", "0:\n.", "no record"} {
				what := fmt.Sprintf("%s behind %q, cut %d", brief(s), b, n)
				d := diskOf(t, b)
				check(t, what, d.Cut(n), nil)
				holds(t, what, d, b, true)
				if n < len(whole) {
					check(t, what, Append(d, s), api.ErrOff)
					holds(t, what, d, b+whole[:n], false)
				} else {
					check(t, what, Append(d, s), nil)
					holds(t, what, d, b+whole, true)
				}
			}
		}
	}
}

// A Cut counts over records: each byte of them, and nothing else.
func TestCutInSeveral(t *testing.T) {
	l := []string{"a", "", "bcd", "\n.", strings.Repeat("x", 12)}
	all := wholesOf(l...)
	for n := range len(all) + 5 {
		d := diskOf(t, "")
		must(t, d.Cut(n))
		at, off := 0, false
		for i, s := range l {
			at += len(wholeOf(s))
			var want error
			if off = off || at > n; off {
				want = api.ErrOff
			}
			check(t, fmt.Sprintf("cut %d, record %d", n, i), Append(d, s), want)
			holds(t, fmt.Sprintf("cut %d, record %d", n, i), d, all[:min(at, n)], !off)
		}
	}
}

// Power that failed stays away, for however short a record, till it is on.
func TestOffStaysOff(t *testing.T) {
	for _, n := range []int{0, 1, 3, 4, 7} {
		d := diskOf(t, "")
		must(t, d.Cut(n))
		check(t, "long", Append(d, "long one"), api.ErrOff)
		for range 3 {
			check(t, "short", Append(d, ""), api.ErrOff)
			check(t, "cut", d.Cut(100), api.ErrOff)
			holds(t, fmt.Sprint(n), d, wholeOf("long one")[:n], false)
		}
		d.On()
		holds(t, fmt.Sprint(n), d, wholeOf("long one")[:n], true)
	}
}

func TestCutErrors(t *testing.T) {
	for _, n := range []int{-1, -2, math.MinInt} {
		d := diskOf(t, "abc")
		check(t, fmt.Sprint(n), d.Cut(n), api.ErrBound)
		holds(t, fmt.Sprint(n), d, "abc", true)
		check(t, "nothing waits", Append(d, "x"), nil)
	}
	for _, n := range []int{0, 1, api.MaxBytes, math.MaxInt} {
		d := diskOf(t, "abc")
		check(t, fmt.Sprint(n), d.Cut(n), nil)
		holds(t, fmt.Sprint(n), d, "abc", true)
	}
}

// What answers an error leaves the Cut that waits as it was.
func TestWrongCutChangesNothing(t *testing.T) {
	d := diskOf(t, "")
	must(t, d.Cut(6))
	check(t, "below 0", d.Cut(-1), api.ErrBound)
	check(t, "too long", Append(d, strings.Repeat("x", api.MaxSource+1)), api.ErrBound)
	check(t, "whole", Append(d, "x"), nil)
	check(t, "below 0", d.Cut(-6), api.ErrBound)
	check(t, "one more byte", Append(d, "x"), api.ErrOff)
	holds(t, "six", d, "1:x\n.1", false)
}

// Of two Cuts the later one counts, from then on.
func TestCutAnew(t *testing.T) {
	for first := range 8 {
		for second := range 8 {
			d := written(t, "ahead")
			must(t, d.Cut(first+5))
			must(t, Append(d, "x"))
			must(t, d.Cut(second))
			var want error
			if second < 5 {
				want = api.ErrOff
			}
			what := fmt.Sprintf("%d, then %d", first, second)
			check(t, what, Append(d, "y"), want)
			holds(t, what, d, wholesOf("ahead", "x")+wholeOf("y")[:min(second, 5)], want == nil)
		}
	}
}

// As many as there is room for, and more: nothing wraps round.
func TestCutFarAway(t *testing.T) {
	for _, n := range []int{api.MaxBytes, math.MaxInt - 1, math.MaxInt} {
		d := diskOf(t, strings.Repeat("x", api.MaxBytes-9))
		must(t, d.Cut(n))
		check(t, fmt.Sprint(n), Append(d, "12345"), nil)
		check(t, fmt.Sprint(n), Append(d, ""), api.ErrFull)
		if !d.Power() {
			t.Error(n, "no power")
		}
	}
}

// A Cut is as far away as it is told, over long records, too.
func TestCutInLong(t *testing.T) {
	long := strings.Repeat("x", api.MaxSource)
	all := strings.Repeat(wholeOf(long), 52)
	for _, n := range []int{255, 256, 999, 1000, 1001, 20006, 20007, 20008, 65535, 65536, 500000, 1000000, len(all) - 1} {
		d := diskOf(t, "")
		must(t, d.Cut(n))
		for i := range 52 {
			var want error
			if (i+1)*len(wholeOf(long)) > n {
				want = api.ErrOff
			}
			check(t, fmt.Sprintf("cut %d, record %d", n, i), Append(d, long), want)
		}
		holds(t, fmt.Sprint(n), d, all[:n], false)
	}
}

// P130: On

func TestOn(t *testing.T) {
	for n := range 12 {
		d := written(t, "ahead")
		must(t, d.Cut(n))
		d.On()
		holds(t, "no Cut waits", d, wholeOf("ahead"), true)
		for range 5 {
			must(t, Append(d, "abcdef"))
		}
		holds(t, "no Cut waits", d, wholeOf("ahead")+strings.Repeat(wholeOf("abcdef"), 5), true)
	}
	d := written(t, "x")
	d.On()
	d.On()
	holds(t, "on and on", d, wholeOf("x"), true)
	must(t, d.Cut(0))
	check(t, "cut behind On", Append(d, "y"), api.ErrOff)
	d.On()
	check(t, "on again", Append(d, "y"), nil)
	holds(t, "on again", d, wholesOf("x", "y"), true)
}

// P131: Read

func TestRead(t *testing.T) {
	for _, s := range texts() {
		for _, behind := range []string{"", "x", "0", "1:x", "1:x\n", "\n.", "\x00"} {
			reads(t, wholeOf(s)+behind, []string{s}, len(wholeOf(s)))
			reads(t, wholesOf("a", s, "b")+behind, []string{"a", s, "b"}, lengthOf("a", s, "b"))
		}
	}
	reads(t, wholesOf(texts()...), texts(), lengthOf(texts()...))
	reads(t, "", nil, 0)
}

// noRecords begin with none.
func noRecords() []string {
	long, longer := strings.Repeat("x", api.MaxSource), strings.Repeat("x", api.MaxSource+1)
	return []string{
		"", "x", "\n", ".", "\n.", ":", ":\n.", "::\n.", "0", "0:", "0:\n", "0\n.", "0:.", "0:.\n", "0:\r\n.", "0:x\n.", "0::\n.", "0: \n.",
		"1:", "1:x", "1:x\n", "1:x.", "1x\n.", "1:\n.", "1:x.\n", "1:xx\n.", "1:x \n.", "1;x\n.", "1 :x\n.", " 1:x\n.", "\n1:x\n.", ".1:x\n.", "1.:x\n.",
		"2:x\n.", "3:x\n.", "4:x\n.", "5:x\n.", "9:12345678\n.", "10:123456789\n.",
		"00:\n.", "01:x\n.", "001:x\n.", "-0:\n.", "-1:\n.", "-1:x\n.", "+0:\n.", "+1:x\n.", "1_0:0123456789\n.", "0x1:x\n.", "1e0:x\n.", "1.0:x\n.", "x:x\n.", "١:x\n.", "１:x\n.",
		"20000:" + long, "20000:" + long + "\n", "20000:" + long[1:] + "\n.", "020000:" + long + "\n.",
		"20001:" + longer + "\n.", "20001:" + long + "\n.", "99999:\n.", "100000:" + strings.Repeat("x", 100000) + "\n.",
		"999999999:\n.", "2147483648:\n.", "4294967297:x\n.", "9223372036854775807:\n.", "9223372036854775808:\n.", "18446744073709551616:\n.", "18446744073709551617:x\n.", strings.Repeat("9", 400) + ":\n.",
	}
}

func TestReadNone(t *testing.T) {
	for _, s := range noRecords() {
		reads(t, s, nil, 0)
		reads(t, wholesOf("a", "", "bc")+s, []string{"a", "", "bc"}, lengthOf("a", "", "bc"))
		// What is right stands behind what is none: it is not reached.
		if len(s) > 0 {
			if l, n := Read("1:x\n.x" + s + wholeOf("y")); len(l) != 1 || n != 5 {
				t.Error(brief(s), l, n)
			}
		}
	}
}

// A tape that ends anywhere has the records that are whole by then.
func TestReadCut(t *testing.T) {
	l := []string{"", "a\n.b", "x", "0:\n.", strings.Repeat("y", 101), "", "\n."}
	all := wholesOf(l...)
	for n := range len(all) + 1 {
		whole, bytes := 0, 0
		for whole < len(l) && bytes+len(wholeOf(l[whole])) <= n {
			bytes += len(wholeOf(l[whole]))
			whole++
		}
		reads(t, all[:n], l[:whole], bytes)
	}
}

// readSlowly goes through all sizes that a record can have.
func readSlowly(b string) ([]string, int) {
	var out []string
	at := 0
next:
	for {
		for n := range min(len(b)-at, api.MaxSource) + 1 {
			head := at + len(strconv.Itoa(n)) + 1
			if head+n > len(b) {
				break
			}
			if s := b[head : head+n]; strings.HasPrefix(b[at:], wholeOf(s)) {
				out = append(out, s)
				at += len(wholeOf(s))
				continue next
			}
		}
		return out, at
	}
}

// All small texts of what records are made of, and one more byte.
func TestReadAllSmall(t *testing.T) {
	const bytes = "01:\n.x"
	sofar := []string{""}
	for range 7 {
		var next []string
		for _, s := range sofar {
			for i := range len(bytes) {
				next = append(next, s+bytes[i:i+1])
			}
		}
		for _, s := range next {
			l, n := Read(s)
			want, wantBytes := readSlowly(s)
			if !slices.Equal(l, want) || n != wantBytes {
				t.Fatalf("%q: %q of %d bytes, want %q of %d", s, l, n, want, wantBytes)
			}
		}
		sofar = next
	}
}

// Any byte of a tape becomes any other one.
func TestReadChanged(t *testing.T) {
	tape := []byte(wholesOf("a", "", "0:\n.", "0123456789ab", "\n."))
	for at, was := range tape {
		for b := range 256 {
			tape[at] = byte(b)
			want, bytes := readSlowly(string(tape))
			reads(t, string(tape), want, bytes)
		}
		tape[at] = was
	}
}

// More than a disk has, as Read has no bound for it; and as many records as have room on one.
func TestReadMany(t *testing.T) {
	for _, count := range []int{api.MaxBytes / 4, api.MaxBytes/4 + 1} {
		b := strings.Repeat("0:\n.", count)
		if l, n := Read(b); len(l) != count || n != len(b) {
			t.Error(count, len(l), n)
		}
	}
	b := strings.Repeat("9", 2*api.MaxBytes)
	reads(t, b, nil, 0)
	reads(t, strings.Repeat(":", api.MaxBytes), nil, 0)
}

// P4: a list that was answered is whose it was answered to.
func TestReadNewMemory(t *testing.T) {
	b := wholesOf("a", "b")
	l, _ := Read(b)
	l[0], l[1] = "other", "other"
	_ = append(l[:1], "other")
	reads(t, b, []string{"a", "b"}, len(b))
	d := diskOf(t, b)
	l, err := Recover(d)
	must(t, err)
	l[0] = "other"
	recovers(t, "again", d, []string{"a", "b"})
}

// P131: Recover

func TestRecoverNone(t *testing.T) {
	l, err := Recover(nil)
	check(t, "nil", err, api.ErrShape)
	if len(l) > 0 {
		t.Error(l)
	}
}

func TestRecoverBytes(t *testing.T) {
	for _, s := range append(noRecords(), wholeOf("z")[1:]) {
		recovers(t, brief(s), diskOf(t, s), nil)
		d := diskOf(t, wholesOf("a", "", "bc")+s)
		for range 2 {
			recovers(t, brief(s), d, []string{"a", "", "bc"})
		}
		check(t, brief(s), Append(d, "on"), nil)
		recovers(t, brief(s), d, []string{"a", "", "bc", "on"})
	}
	d := diskOf(t, strings.Repeat("0:\n.", api.MaxBytes/4))
	recovers(t, "all", d, make([]string, api.MaxBytes/4))
	check(t, "full", Append(d, ""), api.ErrFull)
}

// What goes makes room.
func TestRecoverMakesRoom(t *testing.T) {
	d := diskOf(t, wholeOf("a")+strings.Repeat("x", api.MaxBytes-5))
	check(t, "full", Append(d, "b"), api.ErrFull)
	recovers(t, "full", d, []string{"a"})
	check(t, "room", Append(d, "b"), nil)
	holds(t, "room", d, wholesOf("a", "b"), true)
}

// It is On, too: whether power failed, or a Cut waits.
func TestRecoverIsOn(t *testing.T) {
	for n := range 20 {
		d := written(t, "ahead")
		must(t, d.Cut(n))
		recovers(t, "a Cut waits", d, []string{"ahead"})
		check(t, "no Cut waits", Append(d, strings.Repeat("x", 30)), nil)
		must(t, d.Cut(n))
		check(t, "torn", Append(d, strings.Repeat("y", 30)), api.ErrOff)
		recovers(t, "torn", d, []string{"ahead", strings.Repeat("x", 30)})
		check(t, "no Cut waits", Append(d, strings.Repeat("z", 30)), nil)
		check(t, "a Cut again", d.Cut(0), nil)
		holds(t, "recovered", d, wholesOf("ahead", strings.Repeat("x", 30), strings.Repeat("z", 30)), true)
	}
}

// P1: a Disk that NewDisk did not make.
func TestDiskOfNobody(t *testing.T) {
	d := &Disk{}
	check(t, "append", Append(d, "x"), nil)
	recovers(t, "nobody's", d, []string{"x"})
	recovers(t, "nobody's", &Disk{}, nil)
}

// P130 and P131 together: against a second working-out

// slow is a tape byte by byte: whole bytes, and how many more there is power for.
type slow struct {
	b    string
	more int
	off  bool
}

const noCut = math.MaxInt

func (s *slow) cut(n int) error {
	switch {
	case n < 0:
		return api.ErrBound
	case s.off:
		return api.ErrOff
	}
	s.more = n
	return nil
}

func (s *slow) on() { s.off, s.more = false, noCut }

func (s *slow) append(text string) error {
	if len(text) > api.MaxSource {
		return api.ErrBound
	}
	whole := wholeOf(text)
	if len(s.b)+len(whole) > api.MaxBytes {
		return api.ErrFull
	}
	for i := range len(whole) {
		if s.off || s.more == 0 {
			s.off = true
			return api.ErrOff
		}
		s.b += whole[i : i+1]
		s.more--
	}
	return nil
}

func (s *slow) recover() []string {
	s.on()
	l, n := readSlowly(s.b)
	s.b = s.b[:n]
	return l
}

// steps that can be taken, of both; each tells what it answered.
func steps() []func(*Disk, *slow) (got, want string) {
	long := strings.Repeat("x", api.MaxSource+1)
	cut := func(n int) func(*Disk, *slow) (string, string) {
		return func(d *Disk, s *slow) (string, string) { return told(d.Cut(n)), told(s.cut(n)) }
	}
	write := func(text string) func(*Disk, *slow) (string, string) {
		return func(d *Disk, s *slow) (string, string) { return told(Append(d, text)), told(s.append(text)) }
	}
	return []func(*Disk, *slow) (string, string){
		cut(-1), cut(0), cut(3), cut(4), cut(9),
		write(""), write("0:\n."), write(long),
		func(d *Disk, s *slow) (string, string) { d.On(); s.on(); return "", "" },
		func(d *Disk, s *slow) (string, string) {
			l, err := Recover(d)
			return fmt.Sprintf("%q", l) + told(err), fmt.Sprintf("%q", s.recover())
		},
	}
}

// All steps one behind another, five of them, on two disks.
func TestAllSteps(t *testing.T) {
	all := steps()
	count := 1
	for range 5 {
		count *= len(all)
	}
	for i := range count {
		for _, b := range []string{"", "1:a\n.1"} {
			d, s := diskOf(t, b), &slow{b: b, more: noCut}
			for k := i; k > 0; k /= len(all) {
				got, want := all[k%len(all)](d, s)
				if got != want || d.Bytes() != s.b || d.Power() == s.off {
					t.Fatalf("steps %d on %q: %q, %q, power %v; want %q, %q, %v", i, b, got, d.Bytes(), d.Power(), want, s.b, !s.off)
				}
			}
		}
	}
}

// P132

// Power is cut at each byte, and what is recovered goes on, to be cut at each byte again.
func TestEachCutTwice(t *testing.T) {
	l := []string{"rule a b", "", "hold a f 2\nhi\n", "0:\n.", "\n."}
	for first := range lengthOf(l...) + 2 {
		for second := range lengthOf(l...) + 2 {
			d := diskOf(t, "")
			var done []string
			for round, n := range []int{first, second} {
				must(t, d.Cut(n))
				for _, s := range l {
					if Append(d, s) == nil {
						done = append(done, s)
					}
				}
				recovers(t, fmt.Sprintf("cuts %d, %d, round %d", first, second, round), d, done)
			}
		}
	}
}

// mix is a number that each step makes another one of: the same ones each time.
type mix uint64

func (m *mix) below(n int) int {
	*m = *m*6364136223846793005 + 1442695040888963407
	return int(uint64(*m)>>33) % n
}

// text of all sorts, mostly short, also too long.
func (m *mix) text() string {
	var n int
	switch m.below(12) {
	case 0:
		n = api.MaxSource - 2 + m.below(5)
	case 1:
		n = m.below(api.MaxSource)
	default:
		n = m.below(30)
	}
	pieces := []string{"x", "\n.", "0:\n.", "1:", ":", "\xff", "9"}
	s := strings.Repeat(pieces[m.below(len(pieces))], n+1)
	return s[m.below(len(s)-n+1):][:n]
}

// Round upon round on one disk, cut anywhere or nowhere, also where there is little room from the first on; each round ends with a disk of its bytes, too, as another machine would find them.
func TestRecoveredIsAppended(t *testing.T) {
	done, fulls, offs := 0, 0, 0
	// So many of the longest have room on a disk, and a few thousand bytes beside them.
	const most = 52
	for seed := range 10 {
		m := mix(seed)
		l := slices.Repeat([]string{strings.Repeat("x", api.MaxSource)}, min(seed*7, most))
		d := written(t, l...)
		for round := range 25 {
			if m.below(4) > 0 {
				must(t, d.Cut(m.below(1+m.below(3*api.MaxSource))))
			}
			for range m.below(9) {
				s := m.text()
				switch err := Append(d, s); err {
				case nil:
					l = append(l, s)
					done++
				case api.ErrFull:
					fulls++
				case api.ErrOff:
					offs++
				}
			}
			what := fmt.Sprintf("seed %d, round %d", seed, round)
			recovers(t, what+", elsewhere", diskOf(t, d.Bytes()), l)
			if m.below(2) == 0 || !d.Power() {
				recovers(t, what, d, l)
			}
		}
	}
	if done == 0 || fulls == 0 || offs == 0 {
		t.Errorf("%d appended, %d full, %d off: not all was seen", done, fulls, offs)
	}
}

// P1: whatever is given
func FuzzNothingPanics(f *testing.F) {
	f.Add("1:x\n.2:y", "text", 3)
	f.Add("", "", -1)
	f.Add("99999999999999999999:", "\n.", math.MaxInt)
	f.Fuzz(func(t *testing.T, b, s string, n int) {
		l, bytes := Read(b)
		if bytes > len(b) || wholesOf(l...) != b[:bytes] {
			t.Fatalf("%q: %q of %d bytes", b, l, bytes)
		}
		d, err := NewDisk(b)
		if err != nil {
			return
		}
		if _, err := Recover(d); err != nil {
			t.Fatal(err)
		}
		d.Cut(n)
		if Append(d, s) == nil {
			l = append(l, s)
		}
		recovers(t, "fuzz", d, l)
	})
}
