package scan

import (
	"iter"

	"shelfmark/api"
)

// rest is the most bytes of a part that may have come without the whole of it.
const rest = api.HashPart - 1

// windows goes through the places of s behind which HashPart bytes stand, and
// these.
func windows(s string) iter.Seq2[int, string] {
	return func(yield func(int, string) bool) {
		for at := range len(s) - rest {
			if !yield(at, s[at:at+api.HashPart]) {
				return
			}
		}
	}
}

// end is the last bytes of s: those in which a part may begin and not end.
func end(s string) string { return s[max(0, len(s)-rest):] }
