package codec

import (
	"iter"
	"strings"
)

// forward goes through the bytes of s, whether or not they make runes.
func forward(s string) iter.Seq[byte] {
	return func(yield func(byte) bool) {
		for i := range len(s) {
			if !yield(s[i]) {
				return
			}
		}
	}
}

// backward goes through the bytes of s from the last one on.
func backward(s string) iter.Seq[byte] {
	return func(yield func(byte) bool) {
		for i := len(s) - 1; i >= 0; i-- {
			if !yield(s[i]) {
				return
			}
		}
	}
}

// letters goes through the letters that stand in set at the places of l.
func letters(set string, l iter.Seq[byte]) iter.Seq[byte] {
	return func(yield func(byte) bool) {
		for x := range l {
			if !yield(set[x]) {
				return
			}
		}
	}
}

// numbers goes through the places in set of the letters of l. A letter that is
// none counts as the first of set: told again it is another, and so found out.
func numbers(set string, l iter.Seq[byte]) iter.Seq[byte] {
	return func(yield func(byte) bool) {
		for c := range l {
			if !yield(byte(max(0, strings.IndexByte(set, c)))) {
				return
			}
		}
	}
}

// highest goes through the bits of l, whose numbers have from bits each, as
// numbers of to bits, the highest first. Bits that the last one lacks are 0.
func highest(from, to int, l iter.Seq[byte]) iter.Seq[byte] {
	return func(yield func(byte) bool) {
		held, n, mask := uint(0), 0, uint(1)<<to-1
		for x := range l {
			held, n = held<<from|uint(x), n+from
			for ; n >= to; n -= to {
				if !yield(byte(held >> (n - to) & mask)) {
					return
				}
			}
		}
		if n > 0 {
			yield(byte(held << (to - n) & mask))
		}
	}
}

// lowest is as highest, but the lowest bits come first.
func lowest(from, to int, l iter.Seq[byte]) iter.Seq[byte] {
	return func(yield func(byte) bool) {
		held, n, mask := uint(0), 0, uint(1)<<to-1
		for x := range l {
			held, n = held|uint(x)<<n, n+from
			for ; n >= to; n -= to {
				if !yield(byte(held & mask)) {
					return
				}
				held >>= to
			}
		}
		if n > 0 {
			yield(byte(held))
		}
	}
}

// first is the first n bytes of l, or all, if there are fewer.
func first(n int, l iter.Seq[byte]) string {
	var b strings.Builder
	b.Grow(n)
	for x := range l {
		if b.Len() == n {
			break
		}
		b.WriteByte(x)
	}
	return b.String()
}
