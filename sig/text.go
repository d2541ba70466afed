package sig

import (
	"iter"
	"strings"

	"shelfmark/codec"
)

const (
	stroke  = ":"
	maxName = 64 // bytes of a name
	letters = 88 // of a signature by Base64
)

// May: name may be one.
func May(name string) bool {
	if len(name) < 1 || len(name) > maxName {
		return false
	}
	for i := range len(name) {
		if !fits(name[i]) {
			return false
		}
	}
	return true
}

// fits: c may be in a name.
func fits(c byte) bool {
	switch {
	case 'a' <= c && c <= 'z', 'A' <= c && c <= 'Z', '0' <= c && c <= '9':
		return true
	}
	return c == '-' || c == '.' || c == '_'
}

// Text is a name that may be and a signature of 64 bytes as a text; of others it
// is nothing.
func Text(name, sig string) string {
	if !May(name) || len(sig) != size {
		return ""
	}
	return name + stroke + codec.Base64(sig)
}

// Parse is the name and the signature whose Text s is; false: there are none.
func Parse(s string) (name, sig string, ok bool) {
	// Of longer texts there is nothing to be read.
	if len(s) > maxName+len(stroke)+letters {
		return "", "", false
	}
	n := 0
	for part := range parts(s) {
		switch n {
		case 0:
			name = part
		case 1:
			sig, ok = codec.GetBase64(part)
		}
		n++
	}
	// What was read is told again, since that finds whatever may be wrong in s.
	// Of names that may not be nothing is told, and s may be nothing: hence ok.
	if !ok || Text(name, sig) != s {
		return "", "", false
	}
	// A piece of s would not be new memory (R3).
	return strings.Clone(name), sig, true
}

// parts goes through what stands ahead of, between and behind the strokes of s.
func parts(s string) iter.Seq[string] {
	return func(yield func(string) bool) {
		rest, more := s, true
		for more {
			var part string
			part, rest, more = strings.Cut(rest, stroke)
			if !yield(part) {
				return
			}
		}
	}
}
