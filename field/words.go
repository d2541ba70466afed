package field

import (
	"iter"
	"math/bits"

	"shelfmark/api"
)

// words goes through the words of a with their places, the lowest first.
func words(a api.Num) iter.Seq2[int, uint64] {
	return func(yield func(int, uint64) bool) {
		for i, x := range a {
			if !yield(i, x) {
				return
			}
		}
	}
}

// plus is a and n times b: 256 bits of it, and what stands above them.
func plus(a, b api.Num, n uint64) (api.Num, uint64) {
	above := uint64(0)
	for i, x := range words(b) {
		// The greatest x times n, with two words more, yet goes into two words.
		high, low := bits.Mul64(x, n)
		low, carry := bits.Add64(low, above, 0)
		high += carry
		a[i], carry = bits.Add64(low, a[i], 0)
		above = high + carry
	}
	return a, above
}

// minus is a less b in 256 bits; with 1, if 2^256 had to be lent for it.
func minus(a, b api.Num) (api.Num, uint64) {
	lent := uint64(0)
	for i, x := range words(b) {
		a[i], lent = bits.Sub64(a[i], x, lent)
	}
	return a, lent
}

// product is a times b: the lowest 256 bits of it, and the highest.
func product(a, b api.Num) (low, high api.Num) {
	for i, x := range words(b) {
		sum, above := plus(high, a, x)
		low[i] = sum[0]
		high = api.Num{sum[1], sum[2], sum[3], above}
	}
	return low, high
}
