package scalar

import (
	"math/big"
	"slices"
	"strings"
	"testing"

	"shelfmark/api"
)

// number is the words of a, the lowest first.
func number(a api.Num) *big.Int {
	x := new(big.Int)
	for _, w := range slices.Backward(a[:]) {
		x.Lsh(x, 64)
		x.Or(x, new(big.Int).SetUint64(w))
	}
	return x
}

// below are numbers below the order, the least and the greatest among them.
func below() []api.Num {
	half := api.Num{0x2c09318d2e7ae9f6, 0x0a6f7cef517bce6b, 0, 1 << 59}
	return []api.Num{
		{}, {1}, {2}, {1<<64 - 1}, {0, 1}, {1<<64 - 1, 1<<64 - 1, 1<<64 - 1, 1<<60 - 1}, {0, 0, 0, 1 << 60},
		half, {half[0] + 1, half[1], 0, half[3]}, {half[0] - 1, half[1], 0, half[3]},
		{order[0] - 1, order[1], 0, order[3]}, {order[0] - 2, order[1], 0, order[3]},
		{order[0], order[1] - 1, 0, order[3]}, {1<<64 - 1, order[1] - 1, 0, order[3]},
		{0x0123456789abcdef, 0xfedcba9876543210, 0x8000000000000001, 0x0eadbeefcafef00d},
	}
}

// bitTexts are texts, and their bits from the highest one on.
func bitTexts() [][2]string {
	return [][2]string{
		{"", ""},
		{"\x00", "00000000"},
		{"\x05", "00000101"},
		{"\x80", "10000000"},
		{"\xff", "11111111"},
		{"\x01\x80", "1000000000000001"},
		{"\x0f\x00\xa5", "101001010000000000001111"},
		{"\u00e4", "1010010011000011"},
		{strings.Repeat("\x00", 63) + "\x40", "01" + strings.Repeat("0", 510)},
	}
}

// Chapter 7, Ways: bits are gone through by an iterator.
func TestBitsOf(t *testing.T) {
	for _, c := range bitTexts() {
		got := ""
		for set := range bitsOf(c[0]) {
			got += digit(set)
		}
		if got != c[1] {
			t.Errorf("bits of %q: %s, want %s", c[0], got, c[1])
		}
	}
}

func digit(set bool) string {
	if set {
		return "1"
	}
	return "0"
}

// It may be left early, and gone through again from its beginning.
func TestBitsOfLeftEarly(t *testing.T) {
	l := bitsOf("\x0f\xa5")
	const want = "1010010100001111"
	for n := 1; n <= len(want); n++ {
		got := ""
		for set := range l {
			got += digit(set)
			if len(got) == n {
				break
			}
		}
		if got != want[:n] {
			t.Errorf("bits, left behind %d: %s", n, got)
		}
	}
}

func TestSum(t *testing.T) {
	for _, a := range below() {
		for _, b := range below() {
			want := new(big.Int).Add(number(a), number(b))
			want.Mod(want, number(order))
			if got := sum(a, b); number(got).Cmp(want) != 0 {
				t.Errorf("%x and %x: %x, want %x", a, b, got, want)
			}
		}
	}
}

func TestTimes(t *testing.T) {
	for _, a := range below() {
		for _, b := range below() {
			for _, n := range []int{0, 1, 8, 31, 32} {
				s := raw(a)[:n]
				want := new(big.Int).Mul(number(cut(a, n)), number(b))
				want.Mod(want, number(order))
				if got := times(s, b); number(got).Cmp(want) != 0 {
					t.Errorf("%q times %x: %x, want %x", s, b, got, want)
				}
			}
		}
	}
}

// cut is the n lowest bytes of a.
func cut(a api.Num, n int) api.Num {
	for i := n; i < 32; i++ {
		a[i/8] &^= 255 << (i % 8 * 8)
	}
	return a
}

func TestRaw(t *testing.T) {
	for _, a := range append(below(), order, api.Num{1, 2, 3, 1 << 63}, api.Num{0, 0, 0, 1<<64 - 1}) {
		want := number(a).FillBytes(make([]byte, 32))
		slices.Reverse(want)
		if got := raw(a); got != string(want) {
			t.Errorf("bytes of %x: %q, want %q", a, got, want)
		}
	}
}

func TestOrder(t *testing.T) {
	want, _ := new(big.Int).SetString("27742317777372353535851937790883648493", 10)
	want.Add(want, new(big.Int).Lsh(big.NewInt(1), 252))
	if number(order).Cmp(want) != 0 {
		t.Errorf("the order: %x", order)
	}
}
