package fault

import (
	"errors"
	"testing"

	"chandlery/api"
)

// P3

func TestBare(t *testing.T) {
	other := errors.New("another one")
	for i, c := range []struct{ err, want error }{
		{nil, nil},
		{api.ErrText, api.ErrText},
		{other, other},
		{&api.Fault{At: 3, Err: api.ErrText}, api.ErrText},
		{&api.Fault{At: 0, Err: api.ErrBound}, api.ErrBound},
	} {
		if got := Bare(c.err); got != c.want {
			t.Errorf("%d: %v, want %v", i, got, c.want)
		}
	}
}
