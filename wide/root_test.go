package wide

import (
	"math/big"
	"slices"
	"strings"
	"testing"
)

// count is a kind of numbers with a name of its own.
type count uint16

// behindPoint is the first n bits behind the point of the root of p: the lowest
// n bits of the greatest number whose power is not above p, shifted.
func behindPoint(p uint64, power, n uint) uint64 {
	top := new(big.Int).Lsh(new(big.Int).SetUint64(p), power*n)
	root := new(big.Int)
	for bit := 100; bit >= 0; bit-- {
		more := new(big.Int).SetBit(root, bit, 1)
		if new(big.Int).Exp(more, big.NewInt(int64(power)), nil).Cmp(top) <= 0 {
			root = more
		}
	}
	last := new(big.Int).Lsh(big.NewInt(1), n)
	return new(big.Int).Mod(root, last).Uint64()
}

func wantRoot[W word](t *testing.T, n uint, p uint64) {
	t.Helper()
	if got, want := root[W](p, square), behindPoint(p, 2, n); uint64(got) != want {
		t.Errorf("square root of %d, %d bits: %d, want %d", p, n, got, want)
	}
	if got, want := root[W](p, cube), behindPoint(p, 3, n); uint64(got) != want {
		t.Errorf("cube root of %d, %d bits: %d, want %d", p, n, got, want)
	}
}

// Chapter 4, Ways: the one function finds roots of any kind of numbers, those
// of squares and cubes too, which have nothing behind their points.
func TestRootOfEachKind(t *testing.T) {
	for p := range uint64(530) {
		wantRoot[uint8](t, 8, p)
		wantRoot[uint16](t, 16, p)
		wantRoot[uint32](t, 32, p)
		wantRoot[uint64](t, 64, p)
		wantRoot[count](t, 16, p)
	}
}

func TestRoots(t *testing.T) {
	if l := roots[uint64](0, cube); len(l) != 0 {
		t.Error("roots of no primes:", l)
	}
	// 256 times what is behind 1.414, 1.732, 2.236, 2.645.
	if l := roots[uint8](4, square); !slices.Equal(l, []uint8{106, 187, 60, 165}) {
		t.Error("roots of four primes:", l)
	}
}

func TestPrime(t *testing.T) {
	var l []uint64
	for p := uint64(2); p < 60; p++ {
		if prime(p) {
			l = append(l, p)
		}
	}
	want := []uint64{2, 3, 5, 7, 11, 13, 17, 19, 23, 29, 31, 37, 41, 43, 47, 53, 59}
	if !slices.Equal(l, want) {
		t.Error("primes below 60:", l)
	}
}

// words64 is numbers whose products carry, and others.
func words64() []uint64 {
	l := []uint64{0, 1, 2, 3, 1<<32 - 1, 1 << 32, 1<<63 - 1, 1 << 63, 1<<64 - 2, 1<<64 - 1}
	for x := uint64(1); len(l) < 40; x = x*6364136223846793005 + 1442695040888963407 {
		l = append(l, x)
	}
	return l
}

// joined is the number of some words, the lowest first.
func joined(l ...uint64) *big.Int {
	n := new(big.Int)
	for _, x := range slices.Backward(l) {
		n.Lsh(n, 64)
		n.Add(n, new(big.Int).SetUint64(x))
	}
	return n
}

func TestPowers(t *testing.T) {
	for whole := range uint64(10) {
		for _, part := range words64() {
			x, n := mixed{whole, part}, joined(part, whole)
			two := new(big.Int).Mul(n, n)
			three := new(big.Int).Mul(two, n)
			if want := two.Rsh(two, 128).Uint64(); square(x) != want {
				t.Errorf("square of %v: %d, want %d", x, square(x), want)
			}
			if want := three.Rsh(three, 192).Uint64(); cube(x) != want {
				t.Errorf("cube of %v: %d, want %d", x, cube(x), want)
			}
		}
	}
}

func TestTimes(t *testing.T) {
	few := []uint64{0, 1, 1<<32 + 1, 1 << 63, 1<<64 - 2, 1<<64 - 1}
	for _, low := range few {
		for _, mid := range few {
			for _, high := range few {
				for _, n := range words64() {
					l, over := long{low, mid, high}.times(n)
					want := joined(low, mid, high)
					want.Mul(want, joined(n))
					if joined(l.low, l.mid, l.high, over).Cmp(want) != 0 {
						t.Fatalf("%v times %d: %v and %d", []uint64{low, mid, high}, n, l, over)
					}
				}
			}
		}
	}
}

// 4.1: a byte 128, as few bytes 0 as may be, the length in 16 bytes.
func TestTail(t *testing.T) {
	for n := range 600 {
		s := tail(uint64(n))
		if (n+len(s))%128 != 0 || len(s) < 17 || len(s) > 144 || s[0] != 128 {
			t.Errorf("tail of %d: %q", n, s)
		}
		if strings.Trim(s[1:len(s)-2], "\x00") != "" || int(s[len(s)-2])*256+int(s[len(s)-1]) != 8*n {
			t.Errorf("tail of %d: %q", n, s)
		}
	}
	for n, want := range map[uint64]string{
		1<<29 - 1: "\x00\x00\x00\x00\x00\x00\x00\x00\x00\x00\x00\x00\xff\xff\xff\xf8",
		1 << 29:   "\x00\x00\x00\x00\x00\x00\x00\x00\x00\x00\x00\x01\x00\x00\x00\x00",
		1<<31 - 1: "\x00\x00\x00\x00\x00\x00\x00\x00\x00\x00\x00\x03\xff\xff\xff\xf8",
		1<<61 - 1: "\x00\x00\x00\x00\x00\x00\x00\x00\xff\xff\xff\xff\xff\xff\xff\xf8",
		1 << 61:   "\x00\x00\x00\x00\x00\x00\x00\x01\x00\x00\x00\x00\x00\x00\x00\x00",
		1<<63 - 1: "\x00\x00\x00\x00\x00\x00\x00\x03\xff\xff\xff\xff\xff\xff\xff\xf8",
	} {
		if !strings.HasSuffix(tail(n), want) {
			t.Errorf("tail of %d: %q", n, tail(n))
		}
	}
}
