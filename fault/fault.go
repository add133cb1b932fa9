// Package fault takes errors from their places.
package fault

import (
	"errors"

	"chandlery/api"
)

// Bare is the error without its place, for calls that hand on an error of something that only they have seen: a place in it would tell nobody anything.
func Bare(err error) error {
	var f *api.Fault
	if errors.As(err, &f) {
		return f.Err
	}
	return err
}
