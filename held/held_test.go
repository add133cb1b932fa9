package held

import (
	"fmt"
	"math"
	"slices"
	"strings"
	"testing"

	"chandlery/api"
	"chandlery/pack"
	"chandlery/plain"
	"chandlery/sum"
	"chandlery/tree"
)

// Two texts of files that no sum tells apart, wherever they stand; as file `a` alone, both have the sum of no file at all.
const (
	twin  = "aanmgykj"
	other = "aexcifku"
)

// one file.
func one(p, text string) []api.File { return []api.File{{Path: p, Text: text}} }

// some trees: each of its own sum, the empty one first.
func some(count int) [][]api.File {
	out := [][]api.File{nil}
	for i := 1; i < count; i++ {
		l := one("a", fmt.Sprint(i))
		for k := range i % 4 {
			l = append(l, api.File{Path: fmt.Sprint("b/", k), Run: k%2 == 0, Text: strings.Repeat("\xff\n", i)})
		}
		out = append(out, l)
	}
	return out
}

// fullest is the tree that meets all bounds at once.
func fullest() []api.File {
	var out []api.File
	for i := range api.MaxFiles {
		p := fmt.Sprintf("%02d%s", i, strings.Repeat("/abcdefghij-9", api.MaxParts-1))
		out = append(out, api.File{Path: p, Run: i%2 == 0, Text: strings.Repeat("x", api.MaxAll/api.MaxFiles)})
	}
	return out
}

// wrong is a list that is no tree, and what is told of it.
type wrong struct {
	l   []api.File
	err error
}

func faultAt(at int, err error) error { return &api.Fault{At: at, Err: err} }

func wrongs() []wrong {
	many := make([]api.File, api.MaxFiles+1)
	tooMuch := fullest()
	tooMuch[7].Text += "x"
	return []wrong{
		{many, api.ErrFull},
		{one("", "x"), faultAt(0, api.ErrName)},
		{one("../a", "x"), faultAt(0, api.ErrName)},
		{one("a/b/c/d/e/f/g", "x"), faultAt(0, api.ErrFull)},
		{one("a", strings.Repeat("x", api.MaxText+1)), faultAt(0, api.ErrBound)},
		{[]api.File{{Path: "b"}, {Path: "a"}}, faultAt(1, api.ErrOrder)},
		{[]api.File{{Path: "a"}, {Path: "b"}, {Path: "b"}}, faultAt(2, api.ErrOrder)},
		{[]api.File{{Path: "a"}, {Path: "a/b"}}, faultAt(1, api.ErrClash)},
		{tooMuch, api.ErrBound},
	}
}

// told is an error in one text: so a bare error differs from one with a place, and from another error.
func told(err error) string {
	if err == nil {
		return ""
	}
	_, at := plain.Code(err)
	return fmt.Sprintf("%T %v at %d", err, err, at)
}

// brief tells the beginning of a tree: some are long.
func brief(l []api.File) string { return fmt.Sprintf("%.60s", fmt.Sprint(l)) }

// sumOf a tree, by the chapter of packs.
func sumOf(t *testing.T, l []api.File) int {
	t.Helper()
	s, err := pack.Make(l)
	if err != nil {
		t.Fatalf("%v is no tree: %v", l, err)
	}
	return sum.Of(s)
}

// put a tree, and hold that its sum is told.
func put(t *testing.T, h *Held, l []api.File) int {
	t.Helper()
	want := sumOf(t, l)
	if n, err := h.Put(l); n != want || err != nil {
		t.Errorf("Put %s: %d, %v, want %d", brief(l), n, err, want)
	}
	return want
}

// with trees, one behind the other.
func with(t *testing.T, most int, trees ...[]api.File) *Held {
	t.Helper()
	h := New(most)
	for _, l := range trees {
		put(t, h, l)
	}
	return h
}

// checkNoPut holds what is told of a tree that is not taken, and that nothing changes.
func checkNoPut(t *testing.T, h *Held, l []api.File, want error) {
	t.Helper()
	before := h.Sums()
	if n, err := h.Put(l); n != 0 || told(err) != told(want) {
		t.Errorf("Put %s: %d, %s, want %s", brief(l), n, told(err), told(want))
	}
	if !slices.Equal(h.Sums(), before) {
		t.Errorf("Put %s: holds %v, held %v", brief(l), h.Sums(), before)
	}
}

// checkHolds holds that these trees are held, as they came, and that asking again tells the same.
func checkHolds(t *testing.T, h *Held, trees ...[]api.File) {
	t.Helper()
	var want []int
	for _, l := range trees {
		want = append(want, sumOf(t, l))
	}
	for range 2 {
		if !slices.Equal(h.Sums(), want) {
			t.Errorf("holds %v, want %v", h.Sums(), want)
		}
		for i, n := range want {
			if l, err := h.Get(n); !tree.Same(l, trees[i]) || err != nil {
				t.Errorf("Get %d: %s, %v, want %s", n, brief(l), err, brief(trees[i]))
			}
		}
	}
}

// checkNone holds that no tree of a sum is there, in all calls.
func checkNone(t *testing.T, h *Held, n int) {
	t.Helper()
	before := h.Sums()
	if l, err := h.Get(n); len(l) > 0 || told(err) != told(api.ErrNone) {
		t.Errorf("Get %d: %s, %s", n, brief(l), told(err))
	}
	if err := h.Drop(n); told(err) != told(api.ErrNone) {
		t.Errorf("Drop %d: %s", n, told(err))
	}
	if !slices.Equal(h.Sums(), before) {
		t.Errorf("Drop %d: holds %v, held %v", n, h.Sums(), before)
	}
}

func drop(t *testing.T, h *Held, n int) {
	t.Helper()
	if err := h.Drop(n); err != nil {
		t.Errorf("Drop %d: %v", n, err)
	}
	checkNone(t, h, n)
}

// checkSame holds what Same tells, whichever comes first.
func checkSame(t *testing.T, a, b *Held, want bool) {
	t.Helper()
	if Same(a, b) != want || Same(b, a) != want {
		t.Errorf("%v and %v: %v, %v, want %v", a, b, Same(a, b), Same(b, a), want)
	}
}

func TestTwinsAreTwins(t *testing.T) {
	for _, p := range []string{"b", "a/b", "c"} {
		if sumOf(t, one(p, twin)) != sumOf(t, one(p, other)) {
			t.Fatalf("in %s, the two texts have sums of their own", p)
		}
	}
	if sumOf(t, one("a", twin)) != sumOf(t, nil) || sumOf(t, one("a", other)) != sumOf(t, nil) {
		t.Fatal("no twins of the empty tree")
	}
}

func TestEachOfSomeHasItsOwnSum(t *testing.T) {
	seen := map[int]bool{}
	for _, l := range some(3 * api.MaxHeld) {
		seen[sumOf(t, l)] = true
	}
	if len(seen) != 3*api.MaxHeld {
		t.Fatalf("only %d sums", len(seen))
	}
}

// P100

func TestNothingIsHeldAtFirst(t *testing.T) {
	for _, most := range []int{-1, 0, 1, api.MaxHeld} {
		h := New(most)
		checkHolds(t, h)
		checkHolds(t, h.Copy())
		for _, n := range []int{math.MinInt, -1, 0, 1, sum.Of("a"), 1000000006, 1000000007, math.MaxInt} {
			checkNone(t, h, n)
		}
	}
}

func TestNewHoldsSoMany(t *testing.T) {
	l := some(api.MaxHeld + 5)
	for most, want := range map[int]int{1: 1, 2: 2, 3: 3, api.MaxHeld - 1: api.MaxHeld - 1, api.MaxHeld: api.MaxHeld, api.MaxHeld + 1: api.MaxHeld, 1000: api.MaxHeld, math.MaxInt: api.MaxHeld} {
		h := New(most)
		for i := range l {
			put(t, h, l[i])
			checkHolds(t, h, l[max(0, i+1-want):i+1]...)
		}
	}
}

func TestThereIsRoomForNone(t *testing.T) {
	for _, most := range []int{0, -1, -2, -api.MaxHeld, math.MinInt} {
		h := New(most)
		for _, h := range []*Held{h, h.Copy()} {
			for _, l := range append(some(3), nil, one("a", twin), fullest()) {
				checkNoPut(t, h, l, api.ErrFull)
			}
			checkHolds(t, h)
			checkNone(t, h, 0)
		}
	}
}

func TestPutTellsTheSum(t *testing.T) {
	h := New(api.MaxHeld)
	var all [][]api.File
	for _, l := range append(some(10), fullest(), one("a", ""), []api.File{{Path: "a", Run: true}}) {
		put(t, h, l)
		all = append(all, l)
		checkHolds(t, h, all...)
	}
	n, err := h.Put(one("a", "hi"))
	if n != sum.Of("a f 2\nhi\n") || err != nil {
		t.Error(n, err)
	}
}

func TestPutTellsWhatIsNoTree(t *testing.T) {
	l := some(3)
	h := with(t, 3, l...)
	for _, w := range wrongs() {
		checkNoPut(t, h, w.l, w.err)
		checkNoPut(t, New(5), w.l, w.err)
		// Ahead of no room.
		checkNoPut(t, New(0), w.l, w.err)
		checkNoPut(t, New(-1), w.l, w.err)
	}
	checkHolds(t, h, l...)
}

func TestWhatIsThereIsNotPutAgain(t *testing.T) {
	l := some(4)
	// Full or not, the first one or the last.
	for _, most := range []int{4, 5, api.MaxHeld} {
		h := with(t, most, l...)
		for range 3 {
			for i := range l {
				put(t, h, l[i])
				checkHolds(t, h, l...)
			}
		}
	}
	// What was put again is not younger for it.
	h := with(t, 4, l...)
	put(t, h, l[0])
	put(t, h, one("new", "x"))
	checkHolds(t, h, l[1], l[2], l[3], one("new", "x"))
}

func TestWhatIsGotIsNotYounger(t *testing.T) {
	l := some(4)
	h := with(t, 3, l[:3]...)
	for range 5 {
		h.Get(sumOf(t, l[0]))
	}
	put(t, h, l[3])
	checkHolds(t, h, l[1:]...)
}

func TestTheFirstGoes(t *testing.T) {
	l := some(4)
	h := with(t, 2, l[0], l[1])
	put(t, h, l[2])
	checkHolds(t, h, l[1], l[2])
	checkNone(t, h, sumOf(t, l[0]))
	// What went may come again, last.
	put(t, h, l[0])
	checkHolds(t, h, l[2], l[0])
	checkNone(t, h, sumOf(t, l[1]))
	h = with(t, 1, l...)
	checkHolds(t, h, l[3])
}

func TestOfOneSumTheFirstIsHeld(t *testing.T) {
	h := with(t, 3, one("b", twin))
	put(t, h, one("b", other))
	checkHolds(t, h, one("b", twin))
	put(t, h, one("b", twin))
	checkHolds(t, h, one("b", twin))
	// Nor does the second one come younger, or as its copy.
	put(t, h, one("c", ""))
	put(t, h, one("b", other))
	checkHolds(t, h, one("b", twin), one("c", ""))
	checkHolds(t, h.Copy(), one("b", twin), one("c", ""))
	// Once the first is gone there is nothing of it.
	drop(t, h, sumOf(t, one("b", twin)))
	put(t, h, one("b", other))
	checkHolds(t, h, one("c", ""), one("b", other))
}

func TestTheEmptyTreeIsATree(t *testing.T) {
	h := New(2)
	checkNone(t, h, 0)
	put(t, h, nil)
	checkHolds(t, h, nil)
	put(t, h, []api.File{})
	checkHolds(t, h, nil)
	// It takes room, and goes as others do.
	put(t, h, one("b", ""))
	put(t, h, one("c", ""))
	checkHolds(t, h, one("b", ""), one("c", ""))
	checkNone(t, h, 0)
	put(t, h, []api.File{})
	checkHolds(t, h, one("c", ""), nil)
	drop(t, h, 0)
	checkHolds(t, h, one("c", ""))
	// There is one that has its sum.
	put(t, h, one("a", twin))
	put(t, h, nil)
	checkHolds(t, h, one("c", ""), one("a", twin))
}

func TestDrop(t *testing.T) {
	l := some(5)
	for gone := range l {
		h := with(t, 5, l...)
		drop(t, h, sumOf(t, l[gone]))
		rest := slices.Delete(slices.Clone(l), gone, gone+1)
		checkHolds(t, h, rest...)
		// There is room again: nothing goes for it, and it comes last.
		put(t, h, l[gone])
		checkHolds(t, h, append(rest, l[gone])...)
		// And then there is none.
		put(t, h, one("new", ""))
		checkHolds(t, h, append(rest[1:], l[gone], one("new", ""))...)
	}
	h := with(t, 5, l...)
	for i, gone := range l {
		drop(t, h, sumOf(t, gone))
		checkHolds(t, h, l[i+1:]...)
	}
	put(t, h, l[2])
	checkHolds(t, h, l[2])
}

func TestNoneIsTold(t *testing.T) {
	l := some(3)
	h := with(t, 3, l...)
	greatest := 1000000006
	for _, n := range []int{math.MinInt, -1, -sumOf(t, l[1]), 1, 2, 3, sumOf(t, l[1]) + 1, sumOf(t, l[1]) - 1, sumOf(t, l[1]) + greatest + 1, greatest, greatest + 1, math.MaxInt} {
		checkNone(t, h, n)
		checkNone(t, h.Copy(), n)
	}
	checkHolds(t, h, l...)
}

func TestCopy(t *testing.T) {
	l := some(5)
	for most := range 6 {
		h := New(most)
		for i := range most {
			put(t, h, l[i%5])
		}
		c := h.Copy()
		checkHolds(t, c, l[:most]...)
		checkSame(t, h, c, true)
		checkHolds(t, c.Copy(), l[:most]...)
	}
}

func TestCopiesHoldSoMany(t *testing.T) {
	l := some(api.MaxHeld + 3)
	for _, most := range []int{1, 2, 7, api.MaxHeld} {
		for _, first := range []int{0, 1, most, len(l)} {
			c := with(t, most, l[:first]...).Copy()
			for i := first; i < len(l); i++ {
				put(t, c, l[i])
			}
			checkHolds(t, c, l[len(l)-most:]...)
		}
	}
}

func TestCopiesAreApart(t *testing.T) {
	l := some(6)
	h := with(t, 4, l[:3]...)
	c := h.Copy()
	put(t, h, l[3])
	checkHolds(t, c, l[:3]...)
	put(t, c, l[4])
	put(t, c, l[5])
	checkHolds(t, h, l[:4]...)
	checkHolds(t, c, l[1], l[2], l[4], l[5])
	drop(t, h, sumOf(t, l[1]))
	drop(t, c, sumOf(t, l[5]))
	checkHolds(t, h, l[0], l[2], l[3])
	checkHolds(t, c, l[1], l[2], l[4])
	checkSame(t, h, c, false)
}

func TestHeldsAreApart(t *testing.T) {
	l := some(3)
	a, b := with(t, 3, l[0]), with(t, 3, l[1])
	put(t, a, l[2])
	checkHolds(t, a, l[0], l[2])
	checkHolds(t, b, l[1])
	checkHolds(t, New(3))
}

func TestSame(t *testing.T) {
	l := some(4)
	checkSame(t, nil, nil, true)
	for _, most := range []int{0, 1, 40} {
		checkSame(t, nil, New(most), false)
		checkSame(t, New(0), New(most), true)
	}
	all := with(t, 4, l...)
	checkSame(t, nil, all, false)
	checkSame(t, all, all, true)
	checkSame(t, all, with(t, 4, l...), true)
	// For how many is nothing of it, nor what went.
	checkSame(t, all, with(t, 40, l...), true)
	checkSame(t, with(t, 1, l...), with(t, 2, l[3]), true)
	for i := range l {
		checkSame(t, all, with(t, 4, l[:i]...), false)
		checkSame(t, all, with(t, 4, l[i+1:]...), false)
	}
	// The order is.
	checkSame(t, all, with(t, 4, l[1], l[0], l[2], l[3]), false)
	checkSame(t, all, with(t, 4, l[0], l[1], l[3], l[2]), false)
	checkSame(t, with(t, 4, l[0]), with(t, 4, l[1]), false)
	// The empty tree is not none.
	checkSame(t, with(t, 4, nil), New(4), false)
	checkSame(t, with(t, 4, nil, l[1]), with(t, 4, l[1]), false)
	// By the sums alone.
	checkSame(t, with(t, 4, one("b", twin)), with(t, 4, one("b", other)), true)
}

// P3, P4

func TestWhatWasHandedOverMayChange(t *testing.T) {
	h := New(3)
	l := []api.File{{Path: "a", Text: "one"}, {Path: "b", Text: "two"}}
	was := slices.Clone(l)
	put(t, h, l)
	c := h.Copy()
	l[0].Text, l[1] = "mine", api.File{Path: "z", Run: true}
	checkHolds(t, h, was)
	checkHolds(t, c, was)
	// The same memory may come again as another tree.
	put(t, h, l)
	checkHolds(t, h, was, l)
}

func TestWhatIsHandedOverIsOnlyRead(t *testing.T) {
	l := []api.File{{Path: "a", Text: "one"}, {Path: "b", Text: "two"}, {Path: "behind", Text: "three"}}
	was := slices.Clone(l)
	h := New(1)
	put(t, h, l[:2])
	put(t, h, l[:1])
	put(t, h, l[:0])
	checkHolds(t, h, nil)
	put(t, h, l[:2])
	checkHolds(t, h, was[:2])
	l[2].Text = "mine"
	checkHolds(t, h, was[:2])
	l[2] = was[2]
	if !slices.Equal(l, was) {
		t.Errorf("%v, was %v", l, was)
	}
}

// scribble on all of a list's memory.
func scribble(l []api.File) {
	l = l[:cap(l)]
	for i := range l {
		l[i] = api.File{Path: "mine", Run: true, Text: "mine"}
	}
}

func TestWhatIsAnsweredIsNewMemory(t *testing.T) {
	l := some(5)
	h := with(t, 5, l...)
	c := h.Copy()
	for _, want := range l {
		for _, h := range []*Held{h, c} {
			n := sumOf(t, want)
			first, _ := h.Get(n)
			second, _ := h.Get(n)
			scribble(first)
			if !tree.Same(second, want) {
				t.Errorf("Get %d: %v, want %v", n, second, want)
			}
			scribble(second)
		}
	}
	for _, h := range []*Held{h, c} {
		sums := h.Sums()
		sums = sums[:cap(sums)]
		for i := range sums {
			sums[i] = -7
		}
	}
	checkHolds(t, h, l...)
	checkHolds(t, c, l...)
}

func TestWhatWasAnsweredStays(t *testing.T) {
	l := some(4)
	h := with(t, 3, l[:3]...)
	sums := h.Sums()
	got, _ := h.Get(sums[1])
	put(t, h, l[3])
	drop(t, h, sumOf(t, l[1]))
	if !slices.Equal(sums, []int{sumOf(t, l[0]), sumOf(t, l[1]), sumOf(t, l[2])}) || !tree.Same(got, l[1]) {
		t.Errorf("%v, %v", sums, got)
	}
}

// P100 once more, by a second working-out: a list of pairs, gone through from its front.

type pair struct {
	n int
	l []api.File
}

// step is something that is told to what is held: a tree is put, or one of its sum dropped.
type step struct {
	drops bool
	l     []api.File
}

// after a step, what is there: with the sum that is told, or the error.
func after(there []pair, most int, s step) ([]pair, int, error) {
	n, _ := pack.Sum(s.l)
	var rest []pair
	for _, p := range there {
		if p.n != n {
			rest = append(rest, p)
		}
	}
	known := len(rest) < len(there)
	switch {
	case s.drops && known:
		return rest, 0, nil
	case s.drops:
		return there, 0, api.ErrNone
	case most == 0:
		return there, 0, api.ErrFull
	case known:
		return there, n, nil
	}
	all := append(rest, pair{n, s.l})
	return all[max(0, len(all)-most):], n, nil
}

// checkStep does a step, and holds what is told of it and what is there then.
func checkStep(t *testing.T, h *Held, there []pair, most int, s step) []pair {
	t.Helper()
	there, n, want := after(there, most, s)
	var got int
	var err error
	if s.drops {
		err = h.Drop(sumOf(t, s.l))
	} else {
		got, err = h.Put(s.l)
	}
	if got != n || err != want {
		t.Fatalf("%v: %d, %v, want %d, %v", s, got, err, n, want)
	}
	var sums []int
	for _, p := range there {
		sums = append(sums, p.n)
		if l, err := h.Get(p.n); !tree.Same(l, p.l) || err != nil {
			t.Fatalf("%v: %d is %v, %v, want %v", s, p.n, l, err, p.l)
		}
	}
	if !slices.Equal(h.Sums(), sums) {
		t.Fatalf("%v: holds %v, want %v", s, h.Sums(), sums)
	}
	return there
}

func TestAllSmallDoings(t *testing.T) {
	trees := [][]api.File{nil, one("b", twin), one("b", other), one("b", "x"), one("c", "")}
	var each func(h *Held, there []pair, most, more int)
	each = func(h *Held, there []pair, most, more int) {
		if more == 0 {
			return
		}
		for _, l := range trees {
			for _, drops := range []bool{false, true} {
				// Each on a copy, which thereby goes through all of it, too.
				c := h.Copy()
				each(c, checkStep(t, c, there, most, step{drops, l}), most, more-1)
			}
		}
	}
	for most := range 4 {
		each(New(most), nil, most, 5)
	}
}

// P101

func TestWhatIsGotHasItsSum(t *testing.T) {
	l := append(some(2*api.MaxHeld), one("a", twin), one("a", other), one("b", twin), one("b", other), fullest())
	got := 0
	for _, most := range []int{1, 3, api.MaxHeld} {
		h := New(most)
		// Mixed by a short rule: steps of 31 go through all of them.
		for i := range 1500 {
			mine := slices.Clone(l[i*31%len(l)])
			put(t, h, mine)
			scribble(mine)
			if i%5 == 0 {
				h.Drop(sumOf(t, l[i*17%len(l)]))
			}
			if i%11 == 0 {
				h = h.Copy()
			}
			for _, n := range append(h.Sums(), i, sumOf(t, l[i%len(l)])) {
				came, err := h.Get(n)
				if err != nil {
					continue
				}
				got++
				if k, err := pack.Sum(came); k != n || err != nil {
					t.Fatalf("round %d: %d was asked for, %d, %v came", i, n, k, err)
				}
				scribble(came)
			}
		}
	}
	if got < 50000 {
		t.Errorf("only %d were got", got)
	}
}
