package point

import (
	"iter"

	"shelfmark/api"
)

// bitsOf goes through the 256 bits of k from the highest one on: true is 1.
func bitsOf(k api.Num) iter.Seq[bool] {
	return func(yield func(bool) bool) {
		for i := 255; i >= 0; i-- {
			if !yield(k[i/64]>>(i%64)&1 > 0) {
				return
			}
		}
	}
}
