package scalar

import (
	"iter"
	"math/bits"

	"shelfmark/api"
)

// bitsOf goes through the bits of s, whose lowest byte is its first, from the
// highest bit on: true is 1.
func bitsOf(s string) iter.Seq[bool] {
	return func(yield func(bool) bool) {
		for i := 8*len(s) - 1; i >= 0; i-- {
			if !yield(s[i/8]>>(i%8)&1 > 0) {
				return
			}
		}
	}
}

// times is the number of s times b, modulo the order; b is below the order.
func times(s string, b api.Num) api.Num {
	var n api.Num
	for set := range bitsOf(s) {
		n = sum(n, n)
		if set {
			n = sum(n, b)
		}
	}
	return n
}

// sum is a and b, modulo the order; both are below it.
func sum(a, b api.Num) api.Num {
	// Nothing comes above 256 bits, since twice the order has no more than 254.
	carry := uint64(0)
	for i, x := range b {
		a[i], carry = bits.Add64(a[i], x, carry)
	}
	less, lent := a, uint64(0)
	for i, x := range order {
		less[i], lent = bits.Sub64(a[i], x, lent)
	}
	if lent > 0 {
		return a
	}
	return less
}
