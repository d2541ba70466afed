package wide

import "math/bits"

// word is a kind of numbers that the bits behind a point are told as.
type word interface {
	~uint8 | ~uint16 | ~uint32 | ~uint64
}

// mixed is a whole number, and 64 bits behind its point.
type mixed struct {
	whole, part uint64
}

// long is a number of three words. It is no array, since its words would then
// not stay in registers, and every Sum goes through thousands of them.
type long struct {
	low, mid, high uint64
}

// roots is root of each of the first n primes. None of them is kept: every Sum
// finds its own.
func roots[W word](n int, power func(mixed) uint64) []W {
	l := make([]W, 0, n)
	for p := uint64(2); len(l) < n; p++ {
		if prime(p) {
			l = append(l, root[W](p, power))
		}
	}
	return l
}

// root is the first bits behind the point, as many as a W has, of the number
// whose power is p. The power's whole part is enough to hold against p: with
// bits behind its point a number has no whole square and no whole cube.
func root[W word](p uint64, power func(mixed) uint64) W {
	var x mixed
	for power(mixed{whole: x.whole + 1}) <= p {
		x.whole++
	}
	var found W
	spare := 64 - bits.Len64(uint64(^W(0)))
	for bit := ^(^W(0) >> 1); bit > 0; bit >>= 1 {
		x.part = uint64(found|bit) << spare
		if power(x) < p {
			found |= bit
		}
	}
	return found
}

// square is the whole part of x times x. With w for its whole and f for its
// part that is w w + f (2 w + f), in fewer products than x by x.
func square(x mixed) uint64 {
	w := x.whole
	l, _ := long{x.part, 2 * w, 0}.times(x.part)
	return l.high + w*w
}

// cube is the whole part of x times x times x: w w w + f (3 w w + f (3 w + f)).
func cube(x mixed) uint64 {
	w := x.whole
	l, _ := long{x.part, 3 * w, 0}.times(x.part)
	l.high += 3 * w * w
	_, over := l.times(x.part)
	return over + w*w*w
}

// times is l times n, and the word above it.
func (l long) times(n uint64) (long, uint64) {
	a1, a0 := bits.Mul64(l.low, n)
	b1, b0 := bits.Mul64(l.mid, n)
	c1, c0 := bits.Mul64(l.high, n)
	mid, carry := bits.Add64(a1, b0, 0)
	high, carry := bits.Add64(b1, c0, carry)
	return long{a0, mid, high}, c1 + carry
}

func prime(p uint64) bool {
	for q := uint64(2); q*q <= p; q++ {
		if p%q == 0 {
			return false
		}
	}
	return true
}
