// Package path: paths: see ../shared/doc/01-path.md.
package path

import (
	"iter"
	"slices"
	"strings"

	"chandlery/api"
)

const slash = "/"

// Parts of a path.
func Parts(s string) ([]string, error) {
	if err := Check(s); err != nil {
		return nil, err
	}
	return slices.Collect(cut(s)), nil
}

// Check a path.
func Check(s string) error {
	n := 0
	for part := range cut(s) {
		if !IsPart(part) {
			return api.ErrName
		}
		n++
	}
	// Only here: a part that is none is told first, even behind too many.
	if n > api.MaxParts {
		return api.ErrFull
	}
	return nil
}

// IsPart: is it one part? A path of several is none, though it is a path.
func IsPart(s string) bool {
	if s == "" || len(s) > api.MaxName || s == "." || s == ".." {
		return false
	}
	// By bytes, not runes: all that may stand in a part is one byte wide.
	for i := range len(s) {
		if !isPartByte(s[i]) {
			return false
		}
	}
	return true
}

// Clean any text.
func Clean(s string) (string, error) {
	if strings.HasPrefix(s, slash) {
		return "", api.ErrShape
	}
	var kept []string
	for part := range cut(s) {
		switch {
		case part == "" || part == ".":
		case part == "..":
			if len(kept) == 0 {
				return "", api.ErrOut
			}
			kept = kept[:len(kept)-1]
		case !IsPart(part):
			return "", api.ErrName
		default:
			kept = append(kept, part)
		}
	}
	// Only here: what is too much on the way may be taken away again.
	if len(kept) > api.MaxParts {
		return "", api.ErrFull
	}
	return strings.Join(kept, slash), nil
}

// Join a path below a directory.
func Join(dir, s string) (string, error) {
	// With a slash behind no directory, s would seem to begin at the root.
	if dir == "" {
		return Clean(s)
	}
	return Clean(dir + slash + s)
}

// In: is a path in a directory?
func In(s, dir string) bool {
	if Check(s) != nil {
		return false
	}
	// The slash keeps `ab/c` out of `a`; and what stands ahead of one in a path is a path, so dir needs no check of its own.
	return dir == "" || strings.HasPrefix(s, dir+slash)
}

// Strip the first parts.
func Strip(s string, n int) (string, error) {
	parts, err := Parts(s)
	if err != nil {
		return "", err
	}
	if n < 0 {
		return "", api.ErrBound
	}
	if len(parts) <= n {
		return "", api.ErrShape
	}
	return strings.Join(parts[n:], slash), nil
}

// cut hands out what stands between slashes, piece by piece, so that who stops at a bad piece cuts no further.
func cut(s string) iter.Seq[string] {
	return func(yield func(string) bool) {
		rest, more := s, true
		for more {
			var part string
			part, rest, more = strings.Cut(rest, slash)
			if !yield(part) {
				return
			}
		}
	}
}

func isPartByte(b byte) bool {
	return 'a' <= b && b <= 'z' || '0' <= b && b <= '9' || b == '.' || b == '_' || b == '-'
}
