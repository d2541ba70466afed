package scalar_test

import (
	"crypto/ed25519"
	"crypto/sha512"
	"fmt"
	"math/big"
	"slices"
	"strings"
	"testing"
	"unsafe"

	"shelfmark/api"
	"shelfmark/scalar"
)

const most = 1<<64 - 1

// power is 2^n.
func power(n uint) *big.Int { return new(big.Int).Lsh(big.NewInt(1), n) }

func plus(x *big.Int, d int64) *big.Int { return new(big.Int).Add(x, big.NewInt(d)) }

// order is as chapter 7 tells it.
func order() *big.Int {
	x, _ := new(big.Int).SetString("27742317777372353535851937790883648493", 10)
	return x.Add(x, power(252))
}

// around is n times the order, and d.
func around(n, d int64) *big.Int {
	return plus(new(big.Int).Mul(order(), big.NewInt(n)), d)
}

// num is x, if it has at most 256 bits.
func num(x *big.Int) api.Num {
	var b [32]byte
	x.FillBytes(b[:])
	var a api.Num
	for i, c := range b {
		a[3-i/8] = a[3-i/8]<<8 | uint64(c)
	}
	return a
}

func number(a api.Num) *big.Int {
	x := new(big.Int)
	for _, w := range slices.Backward(a[:]) {
		x.Lsh(x, 64)
		x.Or(x, new(big.Int).SetUint64(w))
	}
	return x
}

func modulo(x *big.Int) api.Num { return num(new(big.Int).Mod(x, order())) }

// raw is the n bytes of x, the lowest first, whatever x is.
func raw(x *big.Int, n int) string {
	b := x.FillBytes(make([]byte, n))
	slices.Reverse(b)
	return string(b)
}

// read is the number of all bytes of s, the lowest first.
func read(s string) *big.Int {
	b := []byte(s)
	slices.Reverse(b)
	return new(big.Int).SetBytes(b)
}

// last is the greatest number of all.
func last() api.Num { return api.Num{most, most, most, most} }

// edges are the numbers about 0, 2^252, 2^253, 2^255, 2^256, a half of the order,
// and each whole one that has 256 bits.
func edges() []api.Num {
	l := []*big.Int{new(big.Int), power(252), power(253), power(255), power(256), new(big.Int).Rsh(order(), 1)}
	for n := range int64(16) {
		l = append(l, around(n, 0))
	}
	var told []api.Num
	for _, x := range l {
		for d := int64(-3); d <= 3; d++ {
			y := plus(x, d)
			if y.Sign() >= 0 && y.BitLen() <= 256 {
				told = append(told, num(y))
			}
		}
	}
	return told
}

// patterns are the numbers whose words are each nothing, all or nearly so.
func patterns() []api.Num {
	one := []uint64{0, 1, most, 1 << 63}
	var l []api.Num
	for i := range 256 {
		l = append(l, api.Num{one[i%4], one[i/4%4], one[i/16%4], one[i/64]})
	}
	return l
}

// ordinary is n numbers without a rule that is to be seen.
func ordinary(n int) []api.Num {
	var l []api.Num
	x := uint64(7)
	for range n {
		var a api.Num
		for i := range a {
			x = x*6364136223846793005 + 1442695040888963407
			a[i] = x ^ x>>29
		}
		l = append(l, a)
	}
	return l
}

func all() []api.Num { return slices.Concat(edges(), patterns(), ordinary(60)) }

// 7.1: Reduce

func wantReduce(t *testing.T, s string, w api.Num) {
	t.Helper()
	if got := scalar.Reduce(s); got != w {
		t.Errorf("7.1: Reduce of %d bytes, %.70q: %x, want %x", len(s), s, got, w)
	}
}

func TestExample(t *testing.T) {
	wantReduce(t, "\x05", api.Num{5})
}

// Texts of every length up to 64, and what is in each of their bytes.
func TestReduceOfLengths(t *testing.T) {
	for n := range 65 {
		for _, b := range []string{"\x00", "\x01", "\x7f", "\x80", "\xff", "a"} {
			s := strings.Repeat(b, n)
			wantReduce(t, s, modulo(read(s)))
			if n > 0 {
				one := strings.Repeat("\x00", n-1) + b
				wantReduce(t, one, modulo(read(one)))
			}
		}
	}
}

func TestReduceOfEdges(t *testing.T) {
	for _, c := range []struct {
		s string
		w api.Num
	}{
		{"", api.Num{}}, {"\x00", api.Num{}}, {"\xff", api.Num{255}}, {"\x01\x02", api.Num{513}},
		{strings.Repeat("\x00", 64), api.Num{}},
		{"\x00\x00\x00\x00\x00\x00\x00\x00\x01", api.Num{0, 1}},
		{raw(around(1, -1), 32), num(around(1, -1))}, {raw(around(1, 0), 32), api.Num{}},
		{raw(around(1, 1), 32), api.Num{1}}, {raw(around(1, 1), 64), api.Num{1}},
		{raw(around(2, -1), 32), num(around(1, -1))}, {raw(around(2, 7), 33), api.Num{7}},
		{raw(around(8, -1), 32), num(around(1, -1))}, {raw(around(8, 0), 32), api.Num{}},
		{raw(around(8, 1), 63), api.Num{1}}, {raw(power(252), 32), num(power(252))},
		{raw(plus(power(252), -1), 32), num(plus(power(252), -1))},
	} {
		wantReduce(t, c.s, c.w)
	}
}

// Numbers of 512 bits, about what the order times another is: the greatest of
// those, and great ones below it.
func TestReduceOfGreatNumbers(t *testing.T) {
	end := power(512)
	times := new(big.Int).Div(end, order())
	for _, a := range all() {
		high := new(big.Int).Lsh(number(a), 256)
		for _, b := range edges()[:20] {
			s := raw(new(big.Int).Or(high, number(b)), 64)
			wantReduce(t, s, modulo(read(s)))
		}
	}
	for n := range int64(40) {
		x := new(big.Int).Mul(order(), new(big.Int).Rsh(plus(times, -n), uint(n)))
		for d := int64(-2); d <= 2; d++ {
			y := plus(x, d)
			wantReduce(t, raw(y, 64), modulo(big.NewInt(d)))
		}
		y := plus(end, -1-n)
		wantReduce(t, raw(y, 64), modulo(y))
	}
}

func TestReduceOfEachBit(t *testing.T) {
	for bit := range uint(512) {
		wantReduce(t, raw(power(bit), 64), modulo(power(bit)))
	}
}

// Only the first 64 bytes count.
func TestReduceOfLongTexts(t *testing.T) {
	for _, head := range []string{strings.Repeat("\x00", 64), strings.Repeat("\xff", 64), strings.Repeat("ab", 32), raw(around(3, 9), 64)} {
		w := modulo(read(head))
		for _, tail := range []string{"\x00", "\x01", "\xff", "a", strings.Repeat("\x00", 64), head, strings.Repeat("\xff", 1<<20)} {
			wantReduce(t, head+tail, w)
		}
	}
	wantReduce(t, strings.Repeat("\x00", 64)+"\x05", api.Num{})
}

// Bytes count, whether or not they make runes.
func TestReduceOfRunes(t *testing.T) {
	for _, s := range []string{"\u00e4", strings.Repeat("\u00e4", 32), "\xc3\x28", "\xf0\x9f\x98\x80", "5", "0x5"} {
		wantReduce(t, s, modulo(read(s)))
	}
}

// 7.1: MulAdd

func wantMulAdd(t *testing.T, a, b, c, w api.Num) {
	t.Helper()
	if got := scalar.MulAdd(a, b, c); got != w {
		t.Errorf("7.1: MulAdd(%x, %x, %x): %x, want %x", a, b, c, got, w)
	}
}

func sum(a, b, c api.Num) api.Num {
	x := new(big.Int).Mul(number(a), number(b))
	return modulo(x.Add(x, number(c)))
}

// Each of all numbers as each of the three arguments.
func TestMulAdd(t *testing.T) {
	l := all()
	for i, a := range l {
		for j := 0; j < len(l); j += 7 {
			b := l[(i+j)%len(l)]
			c := l[(5*i+3*j+1)%len(l)]
			wantMulAdd(t, a, b, c, sum(a, b, c))
			wantMulAdd(t, c, a, b, sum(c, a, b))
		}
	}
}

// The edges that stand for the rest, in every place beside every other.
func TestMulAddOfEdgesInAllPlaces(t *testing.T) {
	l := []api.Num{{}, {1}, {2}, {most}, num(power(252)), num(plus(power(252), -1)), num(plus(power(252), 1)), last()}
	for _, n := range []int64{1, 2, 8, 15} {
		for d := int64(-1); d <= 1; d++ {
			l = append(l, num(around(n, d)))
		}
	}
	for _, a := range l {
		for _, b := range l {
			for _, c := range l {
				wantMulAdd(t, a, b, c, sum(a, b, c))
			}
		}
	}
}

func TestMulAddOfEdges(t *testing.T) {
	of := func(n, d int64) api.Num { return num(around(n, d)) }
	half := num(new(big.Int).Rsh(around(1, 1), 1))
	for _, c := range [][4]api.Num{
		{{}, {}, {}, {}}, {{}, {}, {5}, {5}}, {{6}, {7}, {}, {42}}, {{6}, {7}, {8}, {50}}, {{1}, {1}, {1}, {2}},
		{{most}, {most}, {}, {1, most - 1}}, {{0, 1}, {0, 1}, {3}, {3, 0, 1}}, {{most}, {1}, {1}, {0, 1}},
		{of(1, -1), {1}, {}, of(1, -1)}, {of(1, -1), {1}, {1}, {}}, {of(1, -1), {1}, {2}, {1}},
		{of(1, -1), of(1, -1), {}, {1}}, {of(1, -1), of(1, -1), of(1, -1), {}}, {of(1, -1), {2}, {}, of(1, -2)},
		{{2}, half, {}, {1}}, {half, {2}, of(1, -1), {}}, {of(1, 0), {3}, {}, {}}, {{3}, of(1, 0), {4}, {4}},
		{{}, {}, of(1, 0), {}}, {{}, {}, of(1, -1), of(1, -1)}, {{}, {}, of(1, 1), {1}}, {{}, {}, of(2, -1), of(1, -1)},
		{{}, {}, of(2, 1), {1}}, {{}, {}, of(8, 0), {}}, {{}, {}, of(8, 9), {9}}, {of(8, 2), of(8, 3), of(8, 4), {10}},
		{of(2, 2), of(1, 3), of(15, 4), {10}}, {of(8, -1), of(2, -1), of(1, -2), of(1, -1)},
		{of(15, -1), {9}, {9}, {}}, {{9}, of(15, -1), {9}, {}},
	} {
		wantMulAdd(t, c[0], c[1], c[2], c[3])
	}
}

// Sums of great numbers that are small ones, or just below the order.
func TestMulAddIntoSmallNumbers(t *testing.T) {
	for i, a := range slices.Concat(ordinary(12), []api.Num{last(), num(around(1, -5)), num(around(8, 9))}) {
		inv := new(big.Int).ModInverse(number(a), order())
		for d := int64(-40); d <= 40; d += 1 + int64(i)%3 {
			b := new(big.Int).Mul(inv, big.NewInt(d))
			b.Mod(b, order())
			wantMulAdd(t, a, num(b), api.Num{}, modulo(big.NewInt(d)))
			wantMulAdd(t, num(b.Add(b, order())), a, api.Num{20}, modulo(big.NewInt(d+20)))
		}
	}
}

// 7.1: Bytes

func TestBytes(t *testing.T) {
	for _, a := range all() {
		if got, w := scalar.Bytes(a), raw(number(modulo(number(a))), 32); got != w {
			t.Errorf("7.1: Bytes(%x): %q, want %q", a, got, w)
		}
	}
}

func TestBytesOfEdges(t *testing.T) {
	nought := strings.Repeat("\x00", 31)
	for _, c := range []struct {
		a api.Num
		w string
	}{
		{api.Num{}, "\x00" + nought}, {api.Num{1}, "\x01" + nought}, {api.Num{255}, "\xff" + nought},
		{api.Num{256}, "\x00\x01" + nought[:30]}, {api.Num{0, 1}, nought[:8] + "\x01" + nought[:23]},
		{num(power(252)), nought + "\x10"}, {num(plus(power(252), -1)), strings.Repeat("\xff", 31) + "\x0f"},
		{
			num(around(1, -1)),
			"\xec\xd3\xf5\x5c\x1a\x63\x12\x58\xd6\x9c\xf7\xa2\xde\xf9\xde\x14" + nought[:15] + "\x10",
		},
		{num(around(1, 0)), "\x00" + nought}, {num(around(1, 1)), "\x01" + nought}, {num(around(2, 0)), "\x00" + nought},
		{num(around(2, 3)), "\x03" + nought}, {num(around(8, 0)), "\x00" + nought}, {num(around(15, 9)), "\x09" + nought},
		{
			api.Num{0x0706050403020100, 0x0f0e0d0c0b0a0908, 0x1716151413121110, 0x0f1e1d1c1b1a1918},
			"\x00\x01\x02\x03\x04\x05\x06\x07\x08\x09\x0a\x0b\x0c\x0d\x0e\x0f" +
				"\x10\x11\x12\x13\x14\x15\x16\x17\x18\x19\x1a\x1b\x1c\x1d\x1e\x0f",
		},
	} {
		if got := scalar.Bytes(c.a); got != c.w {
			t.Errorf("7.1: Bytes(%x): %q, want %q", c.a, got, c.w)
		}
	}
}

// 7.1: From

func wantFrom(t *testing.T, s string, w api.Num) {
	t.Helper()
	a, ok := scalar.From(s)
	if !ok || a != w {
		t.Errorf("7.1: From(%q): %x, %v, want %x", s, a, ok, w)
	}
}

func wantNone(t *testing.T, s string) {
	t.Helper()
	a, ok := scalar.From(s)
	if ok || a != (api.Num{}) {
		t.Errorf("7.1: From of %d bytes, %.40q: %x, %v, want none", len(s), s, a, ok)
	}
}

// Of 32 bytes those alone are read whose number is below the order.
func TestFrom(t *testing.T) {
	for _, a := range all() {
		if s := raw(number(a), 32); number(a).Cmp(order()) < 0 {
			wantFrom(t, s, a)
		} else {
			wantNone(t, s)
		}
	}
}

func TestFromOfEachByte(t *testing.T) {
	for i := range 32 {
		for b := range 256 {
			s := []byte(strings.Repeat("\x00", 32))
			s[i] = byte(b)
			if i == 31 && b > 16 {
				wantNone(t, string(s))
				continue
			}
			var a api.Num
			a[i/8] = uint64(b) << (i % 8 * 8)
			wantFrom(t, string(s), a)
		}
	}
}

func TestFromOfNumbersNotBelowTheOrder(t *testing.T) {
	for d := int64(1); d < 60; d++ {
		wantFrom(t, raw(around(1, -d), 32), num(around(1, -d)))
		for n := int64(1); n < 16; n++ {
			wantNone(t, raw(around(n, d-1), 32))
		}
	}
	// With the highest bit set there is none, whatever the others are.
	for _, a := range all() {
		a[3] |= 1 << 63
		wantNone(t, raw(number(a), 32))
	}
	wantNone(t, strings.Repeat("\xff", 32))
}

func TestFromOfOtherLengths(t *testing.T) {
	for n := range 200 {
		for _, b := range []string{"\x00", "\x01", "\x0f", "\xff", "a"} {
			if s := strings.Repeat(b, n); n != 32 {
				wantNone(t, s)
			}
		}
	}
	s := raw(number(api.Num{1, 2, 3, 4}), 32)
	for _, wrong := range []string{
		"", s[:31], s[1:], s + "\x00", "\x00" + s, s + s, raw(around(1, -1), 33), raw(around(1, -1), 64),
		raw(around(1, 0), 33), raw(around(1, 1), 64), raw(big.NewInt(1), 31), raw(big.NewInt(1), 64), raw(power(252), 63),
		strings.Repeat("\x00", 1<<24), s + strings.Repeat("\x00", 1<<20), "5", "0x5", strings.Repeat("\u00e4", 32),
	} {
		wantNone(t, wrong)
	}
	// 32 bytes are read whether or not they make runes.
	odd := strings.Repeat("\u00e4", 15) + "\xc3\x08"
	wantFrom(t, odd, num(read(odd)))
}

// 7.2

func TestToldIsRead(t *testing.T) {
	for _, a := range all() {
		wantFrom(t, scalar.Bytes(a), modulo(number(a)))
	}
}

// What is read is what is told of it.
func TestReadIsTold(t *testing.T) {
	for _, a := range all() {
		s := raw(number(a), 32)
		if x, ok := scalar.From(s); ok && scalar.Bytes(x) != s {
			t.Errorf("7.1: From(%q): %x", s, x)
		}
	}
}

// The library's signatures go by these numbers: the last 32 bytes of one are
// Bytes of MulAdd.
func TestAsTheLibrarySigns(t *testing.T) {
	for n := range 20 {
		seed := strings.Repeat(string(rune('a'+n)), 32)
		msg := strings.Repeat("m", n)
		key := ed25519.NewKeyFromSeed([]byte(seed))
		sig := string(ed25519.Sign(key, []byte(msg)))
		h := sha512.Sum512([]byte(seed))
		a := slices.Clone(h[:32])
		a[0] &= 248
		a[31] = a[31]&127 | 64
		r := reduced(string(h[32:]) + msg)
		k := reduced(sig[:32] + string(key[32:]) + msg)
		s := scalar.Bytes(scalar.MulAdd(k, num(read(string(a))), r))
		if s != sig[32:] {
			t.Errorf("7.1: of a signature of %q: %q, want %q", msg, s, sig[32:])
		}
		if _, ok := scalar.From(sig[32:]); !ok {
			t.Errorf("7.2: of a signature of %q: none", msg)
		}
	}
}

func reduced(s string) api.Num {
	h := sha512.Sum512([]byte(s))
	return scalar.Reduce(string(h[:]))
}

// R3

func TestNothingIsKept(t *testing.T) {
	text := raw(number(api.Num{1, 2, 3, 4}), 32)
	b := []byte(text)
	s := unsafe.String(&b[0], len(b))
	n := scalar.Reduce(s)
	a, ok := scalar.From(s)
	if string(b) != text {
		t.Error("R3: what was handed in changed")
	}
	clear(b)
	if !ok || a != (api.Num{1, 2, 3, 4}) || n != a {
		t.Errorf("R3: what was told changed: %x, %x", a, n)
	}
	told := scalar.Bytes(a)
	kept := strings.Clone(told)
	scalar.Bytes(last())
	if told != kept {
		t.Errorf("R3: what Bytes told changed: %q", told)
	}
}

// R1, R5: a call hangs on no call ahead of it.
func TestCallsDoNotTouch(t *testing.T) {
	l := []api.Num{{}, {4}, num(around(1, -1)), num(around(8, 3)), last(), {2}}
	var told []string
	for range 3 {
		var s string
		for i, a := range l {
			x, ok := scalar.From(raw(number(a), 32))
			s += fmt.Sprintln(scalar.Reduce(raw(number(a), 32+i)), scalar.Bytes(a), x, ok)
			for _, b := range l {
				s += fmt.Sprintln(scalar.MulAdd(a, b, l[i/2]))
			}
		}
		told = append(told, s)
	}
	if told[0] != told[1] || told[1] != told[2] {
		t.Error("R1: the same calls told something else")
	}
}
