package field_test

import (
	"fmt"
	"math/big"
	"slices"
	"strings"
	"testing"
	"unsafe"

	"shelfmark/api"
	"shelfmark/field"
)

const most = 1<<64 - 1

// power is 2^n.
func power(n uint) *big.Int { return new(big.Int).Lsh(big.NewInt(1), n) }

func plus(x *big.Int, d int64) *big.Int { return new(big.Int).Add(x, big.NewInt(d)) }

// prime is as 6.1 tells it.
func prime() *big.Int { return plus(power(255), -19) }

// num is x, if it has at most 256 bits.
func num(x *big.Int) api.Num {
	var a api.Num
	for bit := range 256 {
		a[bit/64] |= uint64(x.Bit(bit)) << (bit % 64)
	}
	return a
}

func number(a api.Num) *big.Int {
	x := new(big.Int)
	for bit := range 256 {
		x.SetBit(x, bit, uint(a[bit/64]>>(bit%64)&1))
	}
	return x
}

// modulo is x modulo the prime, whether or not x is below 0.
func modulo(x *big.Int) api.Num { return num(new(big.Int).Mod(x, prime())) }

// raw is the 32 bytes of a, the lowest first, whatever a is.
func raw(a api.Num) string {
	b := number(a).FillBytes(make([]byte, 32))
	slices.Reverse(b)
	return string(b)
}

// last is the greatest number of all.
func last() api.Num { return api.Num{most, most, most, most} }

// edges are the numbers about 0, the prime, 2^255, twice the prime and 2^256,
// and about a root of minus one.
func edges() []api.Num {
	p := prime()
	quarter := new(big.Int).Rsh(plus(p, -1), 2)
	root := new(big.Int).Exp(big.NewInt(2), quarter, p)
	var l []api.Num
	for _, x := range []*big.Int{new(big.Int), p, power(255), new(big.Int).Lsh(p, 1), power(256), root} {
		for d := int64(-40); d <= 40; d++ {
			y := plus(x, d)
			if y.Sign() >= 0 && y.BitLen() <= 256 {
				l = append(l, num(y))
			}
		}
	}
	return l
}

// patterns are the numbers whose words are each nothing, all or nearly so.
func patterns() []api.Num {
	one := []uint64{0, 1, most, 1 << 63}
	var l []api.Num
	for i := range 256 {
		l = append(l, api.Num{one[i%4], one[i/4%4], one[i/16%4], one[i/64]})
	}
	return l
}

// ordinary is n numbers without a rule that is to be seen.
func ordinary(n int) []api.Num {
	var l []api.Num
	x := uint64(9)
	for range n {
		var a api.Num
		for i := range a {
			x = x*6364136223846793005 + 1442695040888963407
			a[i] = x ^ x>>29
		}
		l = append(l, a)
	}
	return l
}

func all() []api.Num { return slices.Concat(edges(), patterns(), ordinary(60)) }

func want(t *testing.T, name string, got, want api.Num) {
	t.Helper()
	if got != want {
		t.Errorf("%s: %x, want %x", name, got, want)
	}
}

// less is d below the prime.
func less(d int64) api.Num { return num(plus(prime(), -d)) }

// more is d above it.
func more(d int64) api.Num { return num(plus(prime(), d)) }

// twice is d above twice the prime.
func twice(d int64) api.Num { return num(plus(new(big.Int).Lsh(prime(), 1), d)) }

// 6.1: Norm

func TestExample(t *testing.T) {
	p := api.Num{most - 18, most, most, most >> 1}
	want(t, "6: Norm of the prime", field.Norm(p), api.Num{})
}

func TestNorm(t *testing.T) {
	for _, a := range all() {
		want(t, fmt.Sprintf("6.1: Norm(%x)", a), field.Norm(a), modulo(number(a)))
	}
}

func TestNormOfEdges(t *testing.T) {
	for _, c := range [][2]api.Num{
		{{}, {}}, {{1}, {1}}, {{19}, {19}}, {{most}, {most}},
		{less(19), less(19)}, {less(1), less(1)}, {more(0), {}}, {more(1), {1}},
		{more(18), {18}}, {{most, most, most, most >> 1}, {18}},
		{{0, 0, 0, 1 << 63}, {19}}, {{1, 0, 0, 1 << 63}, {20}}, {more(20), {20}},
		{twice(-1), less(1)}, {twice(0), {}}, {twice(1), {1}}, {twice(19), {19}},
		{twice(37), {37}}, {last(), {37}}, {{0, 0, 0, most}, {19, 0, 0, most >> 1}},
	} {
		want(t, fmt.Sprintf("6.1: Norm(%x)", c[0]), field.Norm(c[0]), c[1])
	}
}

// 6.1: Add, Sub, Mul

// Each of all numbers as the first argument, and as the second.
func TestSumDifferenceProduct(t *testing.T) {
	l := all()
	x := make([]*big.Int, len(l))
	for i, a := range l {
		x[i] = number(a)
	}
	p, z := prime(), new(big.Int)
	for i, a := range l {
		for j, b := range l {
			if got, w := field.Add(a, b), words(z.Mod(z.Add(x[i], x[j]), p)); got != w {
				t.Fatalf("6.1: Add(%x, %x): %x, want %x", a, b, got, w)
			}
			if got, w := field.Sub(a, b), words(z.Mod(z.Sub(x[i], x[j]), p)); got != w {
				t.Fatalf("6.1: Sub(%x, %x): %x, want %x", a, b, got, w)
			}
			if got, w := field.Mul(a, b), words(z.Mod(z.Mul(x[i], x[j]), p)); got != w {
				t.Fatalf("6.1: Mul(%x, %x): %x, want %x", a, b, got, w)
			}
		}
	}
}

// words is as num, but fast: for the many.
func words(x *big.Int) api.Num {
	var b [32]byte
	x.FillBytes(b[:])
	var a api.Num
	for i, c := range b {
		a[3-i/8] = a[3-i/8]<<8 | uint64(c)
	}
	return a
}

func TestAddOfEdges(t *testing.T) {
	for _, c := range [][3]api.Num{
		{{}, {}, {}}, {{1}, {}, {1}}, {{}, {1}, {1}}, {{2}, {3}, {5}},
		{{most}, {1}, {0, 1}}, {{most, most, most}, {1}, {0, 0, 0, 1}},
		{less(1), {}, less(1)}, {less(1), {1}, {}}, {less(1), {2}, {1}}, {less(1), less(1), less(2)},
		{more(0), more(0), {}}, {more(0), {7}, {7}}, {more(18), more(18), {36}},
		{twice(0), twice(0), {}}, {last(), {}, {37}}, {{}, last(), {37}}, {last(), {1}, {38}},
		{{1}, last(), {38}}, {last(), last(), {74}}, {{0, 0, 0, 1 << 63}, {0, 0, 0, 1 << 63}, {38}},
	} {
		want(t, fmt.Sprintf("6.1: Add(%x, %x)", c[0], c[1]), field.Add(c[0], c[1]), c[2])
	}
}

func TestSubOfEdges(t *testing.T) {
	for _, c := range [][3]api.Num{
		{{}, {}, {}}, {{5}, {3}, {2}}, {{1}, {1}, {}}, {{0, 1}, {1}, {most}}, {{0, 0, 0, 1}, {1}, {most, most, most}},
		{{}, {1}, less(1)}, {{3}, {5}, less(2)}, {{}, less(1), {1}}, {{1}, less(1), {2}},
		{{}, more(0), {}}, {more(0), {}, {}}, {more(0), {1}, less(1)}, {more(0), more(18), less(18)},
		{{}, twice(0), {}}, {{}, twice(1), less(1)}, {twice(0), {1}, less(1)}, {twice(-1), twice(0), less(1)},
		{last(), {}, {37}}, {{}, last(), less(37)}, {{36}, last(), less(1)}, {{37}, last(), {}},
		{{38}, last(), {1}}, {last(), last(), {}}, {last(), {37}, {}}, {last(), {38}, less(1)},
		{{}, {0, 0, 0, 1 << 63}, less(19)}, {{18}, {0, 0, 0, 1 << 63}, less(1)}, {{19}, {0, 0, 0, 1 << 63}, {}},
	} {
		want(t, fmt.Sprintf("6.1: Sub(%x, %x)", c[0], c[1]), field.Sub(c[0], c[1]), c[2])
	}
}

func TestMulOfEdges(t *testing.T) {
	half := num(new(big.Int).Rsh(plus(prime(), 1), 1))
	for _, c := range [][3]api.Num{
		{{}, {}, {}}, {{1}, {}, {}}, {{}, last(), {}}, {{1}, {1}, {1}}, {{6}, {7}, {42}},
		{{most}, {most}, {1, most - 1}}, {{0, 0, 1}, {0, 0, 1}, {38}}, {{0, 0, 0, 1 << 63}, {2}, {38}},
		{{0, 0, 0, 1 << 63}, {0, 0, 0, 1 << 63}, {361}}, {{0, 1}, {0, 0, 0, 1}, {38}},
		{less(1), less(1), {1}}, {less(1), {2}, less(2)}, {less(2), less(3), {6}}, {{2}, half, {1}},
		{more(0), {3}, {}}, {{3}, more(0), {}}, {more(18), more(18), {324}}, {more(1), {9}, {9}},
		{twice(0), last(), {}}, {twice(1), twice(2), {2}}, {last(), {1}, {37}}, {{1}, last(), {37}},
		{last(), {2}, {74}}, {last(), last(), {1369}}, {last(), less(1), less(37)},
	} {
		want(t, fmt.Sprintf("6.1: Mul(%x, %x)", c[0], c[1]), field.Mul(c[0], c[1]), c[2])
	}
}

// Products of great numbers that are small ones, or just below the prime: what
// comes above 256 bits comes so again.
func TestMulIntoSmallNumbers(t *testing.T) {
	p := prime()
	for i, a := range slices.Concat(ordinary(12), []api.Num{last(), less(5), twice(9)}) {
		inv := new(big.Int).ModInverse(number(a), p)
		for d := int64(-60); d <= 1600; d += 1 + int64(i)%3 {
			b := new(big.Int).Mul(inv, big.NewInt(d))
			b.Mod(b, p)
			w := modulo(big.NewInt(d))
			want(t, fmt.Sprintf("6.1: Mul into %d", d), field.Mul(a, num(b)), w)
			want(t, fmt.Sprintf("6.1: Mul into %d", d), field.Mul(num(b.Add(b, p)), a), w)
		}
	}
}

// 6.1: Inv

func TestInv(t *testing.T) {
	p := prime()
	for _, a := range all() {
		got := field.Inv(a)
		if number(a).Mod(number(a), p).Sign() == 0 {
			want(t, fmt.Sprintf("6.1: Inv(%x)", a), got, api.Num{})
			continue
		}
		want(t, fmt.Sprintf("6.1: Inv(%x)", a), got, num(new(big.Int).ModInverse(number(a), p)))
		want(t, fmt.Sprintf("6.1: Inv(%x) times it", a), field.Mul(got, a), api.Num{1})
	}
}

func TestInvOfEdges(t *testing.T) {
	half := num(new(big.Int).Rsh(plus(prime(), 1), 1))
	for _, c := range [][2]api.Num{
		{{}, {}}, {more(0), {}}, {twice(0), {}}, {{1}, {1}}, {more(1), {1}}, {twice(1), {1}},
		{less(1), less(1)}, {twice(-1), less(1)}, {{2}, half}, {half, {2}}, {more(2), half},
		{more(18), num(new(big.Int).ModInverse(big.NewInt(18), prime()))},
		{last(), num(new(big.Int).ModInverse(big.NewInt(37), prime()))},
	} {
		want(t, fmt.Sprintf("6.1: Inv(%x)", c[0]), field.Inv(c[0]), c[1])
	}
}

// 6.1: Root

// even is the root of a as 6.1 tells it, by the library; false: there is none.
func even(a api.Num) (api.Num, bool) {
	p := prime()
	x := number(a)
	r := new(big.Int).ModSqrt(x.Mod(x, p), p)
	if r == nil {
		return api.Num{}, false
	}
	if r.Bit(0) > 0 {
		r.Sub(p, r)
	}
	return num(r), true
}

func wantRoot(t *testing.T, a, w api.Num) {
	t.Helper()
	got, ok := field.Root(a)
	if !ok || got != w {
		t.Errorf("6.1: Root(%x): %x, %v, want %x", a, got, ok, w)
	}
}

func wantNoRoot(t *testing.T, a api.Num) {
	t.Helper()
	got, ok := field.Root(a)
	if ok || got != (api.Num{}) {
		t.Errorf("6.1: Root(%x): %x, %v, want none", a, got, ok)
	}
}

func TestRoot(t *testing.T) {
	some, none := 0, 0
	for _, a := range all() {
		r, ok := even(a)
		if !ok {
			none++
			wantNoRoot(t, a)
			continue
		}
		some++
		wantRoot(t, a, r)
	}
	if some < 100 || none < 100 {
		t.Error("the test's own:", some, none)
	}
}

// Of a square the even one of a and minus a; of twice a square none, since 2 is
// no square.
func TestRootOfSquares(t *testing.T) {
	p := prime()
	for _, a := range all() {
		x := number(a)
		x.Mod(x, p)
		square := modulo(new(big.Int).Mul(x, x))
		double := modulo(new(big.Int).Lsh(number(square), 1))
		if x.Bit(0) > 0 {
			x.Sub(p, x)
		}
		wantRoot(t, square, num(x))
		if square == (api.Num{}) {
			wantRoot(t, double, api.Num{})
		} else {
			wantNoRoot(t, double)
		}
	}
}

func TestRootOfEdges(t *testing.T) {
	p := prime()
	turn := new(big.Int).Exp(big.NewInt(2), new(big.Int).Rsh(plus(p, -1), 2), p)
	if turn.Bit(0) > 0 {
		turn.Sub(p, turn)
	}
	for _, c := range [][2]api.Num{
		{{}, {}}, {more(0), {}}, {twice(0), {}}, {{1}, less(1)}, {more(1), less(1)}, {twice(1), less(1)},
		{{4}, {2}}, {{9}, less(3)}, {{16}, {4}}, {{36}, {6}}, {more(4), {2}}, {twice(4), {2}}, {twice(36), {6}},
		{less(1), num(turn)}, {twice(-1), num(turn)},
		{less(4), modulo(new(big.Int).Lsh(turn, 1))},
	} {
		if c[1][0]%2 > 0 {
			c[1] = num(new(big.Int).Sub(p, number(c[1])))
		}
		wantRoot(t, c[0], c[1])
	}
	for _, a := range []api.Num{{2}, {8}, {18}, {32}, less(2), less(8), more(2), more(18), twice(2), twice(18)} {
		wantNoRoot(t, a)
	}
}

// Each number below 200, and each as far below the prime.
func TestRootOfSmallNumbers(t *testing.T) {
	for d := range int64(200) {
		for _, a := range []api.Num{num(big.NewInt(d)), less(d + 1)} {
			if r, ok := even(a); ok {
				wantRoot(t, a, r)
			} else {
				wantNoRoot(t, a)
			}
		}
	}
}

// 6.2: Bytes

func TestBytes(t *testing.T) {
	for _, a := range all() {
		if got, w := field.Bytes(a), raw(modulo(number(a))); got != w {
			t.Errorf("6.2: Bytes(%x): %q, want %q", a, got, w)
		}
	}
}

func TestBytesOfEdges(t *testing.T) {
	nought := strings.Repeat("\x00", 31)
	rest := strings.Repeat("\xff", 30) + "\x7f"
	for _, c := range []struct {
		a api.Num
		w string
	}{
		{api.Num{}, "\x00" + nought}, {api.Num{1}, "\x01" + nought}, {api.Num{255}, "\xff" + nought},
		{api.Num{256}, "\x00\x01" + nought[:30]}, {api.Num{0, 1}, nought[:8] + "\x01" + nought[:23]},
		{less(1), "\xec" + rest}, {more(0), "\x00" + nought}, {more(1), "\x01" + nought},
		{more(18), "\x12" + nought}, {api.Num{0, 0, 0, 1 << 63}, "\x13" + nought},
		{twice(-1), "\xec" + rest}, {twice(0), "\x00" + nought}, {last(), "\x25" + nought},
		{
			api.Num{0x0706050403020100, 0x0f0e0d0c0b0a0908, 0x1716151413121110, 0x1f1e1d1c1b1a1918},
			"\x00\x01\x02\x03\x04\x05\x06\x07\x08\x09\x0a\x0b\x0c\x0d\x0e\x0f" +
				"\x10\x11\x12\x13\x14\x15\x16\x17\x18\x19\x1a\x1b\x1c\x1d\x1e\x1f",
		},
	} {
		if got := field.Bytes(c.a); got != c.w {
			t.Errorf("6.2: Bytes(%x): %q, want %q", c.a, got, c.w)
		}
	}
}

// 6.2: From

func wantFrom(t *testing.T, s string, w api.Num) {
	t.Helper()
	a, ok := field.From(s)
	if !ok || a != w {
		t.Errorf("6.2: From(%q): %x, %v, want %x", s, a, ok, w)
	}
}

func wantNone(t *testing.T, s string) {
	t.Helper()
	a, ok := field.From(s)
	if ok || a != (api.Num{}) {
		t.Errorf("6.2: From of %d bytes, %.40q: %x, %v, want none", len(s), s, a, ok)
	}
}

// Of 32 bytes those alone are read whose number is below the prime.
func TestFrom(t *testing.T) {
	p := prime()
	for _, a := range all() {
		if number(a).Cmp(p) < 0 {
			wantFrom(t, raw(a), a)
		} else {
			wantNone(t, raw(a))
		}
	}
}

func TestFromOfEachByte(t *testing.T) {
	for i := range 32 {
		for b := range 256 {
			s := []byte(strings.Repeat("\x00", 32))
			s[i] = byte(b)
			if i == 31 && b > 127 {
				wantNone(t, string(s))
				continue
			}
			var a api.Num
			a[i/8] = uint64(b) << (i % 8 * 8)
			wantFrom(t, string(s), a)
		}
	}
}

func TestFromOfNumbersNotBelowThePrime(t *testing.T) {
	wantFrom(t, raw(less(1)), less(1))
	for d := range int64(60) {
		wantNone(t, raw(more(d)))
		wantNone(t, raw(twice(d-30)))
	}
	// With the highest bit set there is none, whatever the others are.
	for _, a := range all() {
		a[3] |= 1 << 63
		wantNone(t, raw(a))
	}
	wantNone(t, strings.Repeat("\xff", 32))
}

func TestFromOfOtherLengths(t *testing.T) {
	for n := range 200 {
		for _, b := range []string{"\x00", "\x01", "\x7f", "\xff", "a"} {
			if s := strings.Repeat(b, n); n != 32 {
				wantNone(t, s)
			}
		}
	}
	s := raw(api.Num{1, 2, 3, 4})
	for _, wrong := range []string{
		"", s[:31], s[1:], s + "\x00", "\x00" + s, s + s, raw(less(1))[:31], raw(less(1)) + "\x00",
		strings.Repeat("\x00", 1<<24), s + strings.Repeat("\x00", 1<<20), "5", "0x5", strings.Repeat("\u00e4", 32),
	} {
		wantNone(t, wrong)
	}
	// 32 bytes are read whether or not they make runes.
	wantFrom(t, strings.Repeat("\u00e4", 15)+"\xc3\x28", num(new(big.Int).SetBytes([]byte("\x28\xc3"+strings.Repeat("\xa4\xc3", 15)))))
}

// 6.3

func TestToldIsRead(t *testing.T) {
	for _, a := range all() {
		wantFrom(t, field.Bytes(a), field.Norm(a))
	}
}

// What is read is what is told of it.
func TestReadIsTold(t *testing.T) {
	for _, a := range all() {
		s := raw(a)
		if x, ok := field.From(s); ok && (field.Bytes(x) != s || field.Norm(x) != x) {
			t.Errorf("6.2: From(%q): %x", s, x)
		}
	}
}

// R3

func TestNothingIsKept(t *testing.T) {
	b := []byte(raw(api.Num{1, 2, 3, 4}))
	a, ok := field.From(unsafe.String(&b[0], len(b)))
	if string(b) != raw(api.Num{1, 2, 3, 4}) {
		t.Error("R3: what was handed to From changed")
	}
	clear(b)
	if !ok || a != (api.Num{1, 2, 3, 4}) {
		t.Errorf("R3: what From told changed: %x", a)
	}
	s := field.Bytes(a)
	kept := strings.Clone(s)
	field.Bytes(last())
	if s != kept {
		t.Errorf("R3: what Bytes told changed: %q", s)
	}
}

// R1, R5: a call hangs on no call ahead of it.
func TestCallsDoNotTouch(t *testing.T) {
	l := []api.Num{{}, {4}, less(1), more(3), last(), {2}}
	var told []string
	for range 3 {
		var s string
		for _, a := range l {
			r, ok := field.Root(a)
			x, read := field.From(raw(a))
			s += fmt.Sprintln(field.Norm(a), field.Inv(a), r, ok, x, read, field.Bytes(a))
			for _, b := range l {
				s += fmt.Sprintln(field.Add(a, b), field.Sub(a, b), field.Mul(a, b))
			}
		}
		told = append(told, s)
	}
	if told[0] != told[1] || told[1] != told[2] {
		t.Error("R1: the same calls told something else")
	}
}
