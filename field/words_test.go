package field

import (
	"math/big"
	"slices"
	"testing"

	"shelfmark/api"
)

const most = 1<<64 - 1

// number is the words of l, the lowest first.
func number(l ...uint64) *big.Int {
	x := new(big.Int)
	for _, w := range slices.Backward(l) {
		x.Lsh(x, 64)
		x.Or(x, new(big.Int).SetUint64(w))
	}
	return x
}

// some are numbers, the least and the greatest among them.
func some() []api.Num {
	return []api.Num{
		{}, {1}, {most}, {0, most}, {most, 0, most}, {0, 0, 0, 1 << 63}, {most, most, most, most >> 1},
		{most, most, most, most}, {most - 1, most, most, most}, {1, 2, 3, 4}, {0, 1}, {1, 0, 0, most},
		{0x0123456789abcdef, 0xfedcba9876543210, 0x8000000000000001, 0xdeadbeefcafef00d},
	}
}

// Chapter 6, Ways: words are gone through by an iterator.
func TestWords(t *testing.T) {
	for _, a := range some() {
		var places []int
		var got []uint64
		for i, x := range words(a) {
			places, got = append(places, i), append(got, x)
		}
		if !slices.Equal(places, []int{0, 1, 2, 3}) || !slices.Equal(got, a[:]) {
			t.Errorf("words of %x: %d, %x", a, places, got)
		}
	}
}

// It may be left early, and gone through again from its beginning.
func TestWordsLeftEarly(t *testing.T) {
	l := words(api.Num{5, 6, 7, 8})
	for n := 1; n <= 4; n++ {
		var got []uint64
		for _, x := range l {
			got = append(got, x)
			if len(got) == n {
				break
			}
		}
		if !slices.Equal(got, []uint64{5, 6, 7, 8}[:n]) {
			t.Errorf("words, left behind %d: %d", n, got)
		}
	}
}

func TestPlus(t *testing.T) {
	for _, a := range some() {
		for _, b := range some() {
			for _, n := range []uint64{0, 1, 19, 38, 1 << 63, most} {
				sum, above := plus(a, b, n)
				want := new(big.Int).Mul(number(b[:]...), number(n))
				want.Add(want, number(a[:]...))
				if number(append(sum[:], above)...).Cmp(want) != 0 {
					t.Errorf("%x and %d times %x: %x, %x", a, n, b, sum, above)
				}
			}
		}
	}
}

func TestMinus(t *testing.T) {
	for _, a := range some() {
		for _, b := range some() {
			d, lent := minus(a, b)
			want := new(big.Int).Sub(number(a[:]...), number(b[:]...))
			got := new(big.Int).Sub(number(d[:]...), number(0, 0, 0, 0, lent))
			if lent > 1 || got.Cmp(want) != 0 {
				t.Errorf("%x less %x: %x, %d", a, b, d, lent)
			}
		}
	}
}

func TestProduct(t *testing.T) {
	for _, a := range some() {
		for _, b := range some() {
			low, high := product(a, b)
			want := new(big.Int).Mul(number(a[:]...), number(b[:]...))
			if number(append(low[:], high[:]...)...).Cmp(want) != 0 {
				t.Errorf("%x times %x: %x, %x", a, b, low, high)
			}
		}
	}
}

func TestTurn(t *testing.T) {
	if got := Add(Mul(turn, turn), api.Num{1}); got != (api.Num{}) || Norm(turn) != turn {
		t.Errorf("the square of turn and 1: %x", got)
	}
}

func TestOnes(t *testing.T) {
	p := number(most-18, most, most, most>>1)
	for _, a := range some() {
		for _, n := range []int{1, 2, 3, 4, 5, 10, 31, 64, 125, 250, 251, 255} {
			e := new(big.Int).Lsh(big.NewInt(1), uint(n))
			want := new(big.Int).Exp(number(a[:]...), e.Sub(e, big.NewInt(1)), p)
			got := Norm(ones(a, n))
			if number(got[:]...).Cmp(want) != 0 {
				t.Errorf("%x by %d ones: %x, want %x", a, n, got, want)
			}
		}
	}
}
