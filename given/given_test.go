// Package given holds tests alone: of packages api and plain, whose folders stay as they were given.
package given

import (
	"errors"
	"testing"

	"chandlery/api"
	"chandlery/plain"
)

// P5

func TestBounds(t *testing.T) {
	for i, c := range [][2]int{
		{api.MaxParts, 6}, {api.MaxName, 12}, {api.MaxFiles, 30}, {api.MaxText, 4000}, {api.MaxAll, 12000}, {api.MaxSource, 20000}, {api.MaxBytes, 1048576},
		{api.MaxRules, 10}, {api.MaxWays, 8}, {api.MaxWants, 20}, {api.MaxHeld, 40}, {api.MaxScript, 80}, {api.Workers, 16},
	} {
		if c[0] != c[1] {
			t.Errorf("bound %d: %d, want %d", i, c[0], c[1])
		}
	}
}

func TestErrors(t *testing.T) {
	for i, c := range []struct {
		err  error
		text string
	}{
		{api.ErrText, "text"}, {api.ErrBound, "bound"}, {api.ErrShape, "shape"}, {api.ErrKind, "kind"}, {api.ErrName, "name"}, {api.ErrNone, "none"}, {api.ErrExist, "exist"},
		{api.ErrFull, "full"}, {api.ErrOrder, "order"}, {api.ErrOut, "out"}, {api.ErrClash, "clash"}, {api.ErrSum, "sum"}, {api.ErrOff, "off"},
	} {
		if c.err.Error() != "chandlery: "+c.text {
			t.Errorf("%v, want %s", c.err, c.text)
		}
		if code, at := plain.Code(c.err); code != i+1 || at != -1 {
			t.Errorf("%v: code %d at %d", c.err, code, at)
		}
		fault := &api.Fault{At: 7, Err: c.err}
		if code, at := plain.Code(fault); code != i+1 || at != 7 || fault.Error() != c.err.Error() || !errors.Is(fault, c.err) {
			t.Errorf("%v at 7: code %d at %d", fault, code, at)
		}
	}
}

func TestCodeOfOthers(t *testing.T) {
	if code, at := plain.Code(nil); code != 0 || at != -1 {
		t.Error(code, at)
	}
	if code, at := plain.Code(errors.New("chandlery: text")); code != -1 || at != -1 {
		t.Error(code, at)
	}
}
