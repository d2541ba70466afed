package bitmap

import (
	"iter"

	"shelfmark/api"
)

// places goes through the places of l, run by run.
func places(l []api.Run) iter.Seq[int] {
	return func(yield func(int) bool) {
		for _, r := range l {
			for k := range r.N {
				if !yield(r.At + k) {
					return
				}
			}
		}
	}
}

// total is the sum of what each of l counts for.
func total[E any](l []E, count func(E) int) int {
	n := 0
	for _, e := range l {
		n += count(e)
	}
	return n
}

// length is how many places r has.
func length(r api.Run) int { return max(r.N, 0) }
