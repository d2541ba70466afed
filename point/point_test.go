package point_test

import (
	"crypto/ed25519"
	"crypto/sha512"
	"fmt"
	"math/big"
	"slices"
	"strings"
	"testing"
	"unsafe"

	"shelfmark/api"
	"shelfmark/point"
)

const most = 1<<64 - 1

// prime is as chapter 6 tells it.
var prime = plus(power(255), -19)

// fraction is d of chapter 8: -121665 over 121666.
var fraction = over(big.NewInt(-121665), big.NewInt(121666))

// power is 2^n.
func power(n uint) *big.Int { return new(big.Int).Lsh(big.NewInt(1), n) }

func plus(x *big.Int, n int64) *big.Int { return new(big.Int).Add(x, big.NewInt(n)) }

// times is the product of all, modulo the prime.
func times(l ...*big.Int) *big.Int {
	n := big.NewInt(1)
	for _, x := range l {
		n.Mul(n, x)
		n.Mod(n, prime)
	}
	return n
}

// over is x over y, modulo the prime; y is not 0 modulo it.
func over(x, y *big.Int) *big.Int {
	return times(x, new(big.Int).ModInverse(new(big.Int).Mod(y, prime), prime))
}

func minus(x *big.Int) *big.Int { return times(x, big.NewInt(-1)) }

// order is how many points Base makes.
func order() *big.Int {
	x, _ := new(big.Int).SetString("27742317777372353535851937790883648493", 10)
	return x.Add(x, power(252))
}

// num is x, if it has at most 256 bits.
func num(x *big.Int) api.Num {
	var b [32]byte
	x.FillBytes(b[:])
	var a api.Num
	for i, c := range b {
		a[3-i/8] = a[3-i/8]<<8 | uint64(c)
	}
	return a
}

func number(a api.Num) *big.Int {
	x := new(big.Int)
	for _, w := range slices.Backward(a[:]) {
		x.Lsh(x, 64)
		x.Or(x, new(big.Int).SetUint64(w))
	}
	return x
}

// raw is the 32 bytes of x, the lowest first.
func raw(x *big.Int) string {
	b := x.FillBytes(make([]byte, 32))
	slices.Reverse(b)
	return string(b)
}

// read is the number of the bytes of s, the lowest first.
func read(s string) *big.Int {
	b := []byte(s)
	slices.Reverse(b)
	return new(big.Int).SetBytes(b)
}

func at(x, y *big.Int) api.Point { return api.Point{X: num(x), Y: num(y)} }

// small is n, or as far below the prime as n is below 0.
func small(n int64) *big.Int { return new(big.Int).Mod(big.NewInt(n), prime) }

// last is the greatest number of all.
func last() api.Num { return api.Num{most, most, most, most} }

func nought() api.Point { return api.Point{Y: api.Num{1}} }

// base is as 8.1 tells it.
func base() api.Point {
	y := over(big.NewInt(4), big.NewInt(5))
	x, _ := across(y)
	return at(x, y)
}

// across is the even X that stands beside y on the curve; false: there is none.
func across(y *big.Int) (*big.Int, bool) {
	yy := times(y, y)
	return even(over(plus(yy, -1), plus(times(fraction, yy), 1)))
}

// along is the even Y that stands beside x on the curve; false: there is none.
func along(x *big.Int) (*big.Int, bool) {
	xx := times(x, x)
	return even(over(plus(xx, 1), plus(minus(times(fraction, xx)), 1)))
}

// even is the even one of the roots of x; false: there is none.
func even(x *big.Int) (*big.Int, bool) {
	r := new(big.Int).ModSqrt(x, prime)
	if r == nil {
		return nil, false
	}
	if r.Bit(0) > 0 {
		r.Sub(prime, r)
	}
	return r, true
}

// on is as 8.1 tells it.
func on(p api.Point) bool {
	x, y := number(p.X), number(p.Y)
	if x.Cmp(prime) >= 0 || y.Cmp(prime) >= 0 {
		return false
	}
	left := new(big.Int).Sub(times(y, y), times(x, x))
	return left.Mod(left, prime).Cmp(times(plus(times(fraction, x, x, y, y), 1))) == 0
}

// sum is a sum as 8.1 tells it.
func sum(p, q api.Point) api.Point {
	px, py, qx, qy := number(p.X), number(p.Y), number(q.X), number(q.Y)
	k := times(fraction, px, qx, py, qy)
	x := new(big.Int).Add(times(px, qy), times(py, qx))
	y := new(big.Int).Add(times(py, qy), times(px, qx))
	return at(over(x, plus(k, 1)), over(y, plus(minus(k), 1)))
}

// often is p added k times.
func often(k *big.Int, p api.Point) api.Point {
	n := nought()
	for i := k.BitLen() - 1; i >= 0; i-- {
		n = sum(n, n)
		if k.Bit(i) > 0 {
			n = sum(n, p)
		}
	}
	return n
}

// about is p with its X turned about.
func about(p api.Point) api.Point { return at(minus(number(p.X)), number(p.Y)) }

// turns are the eight points that come to (0, 1) in eight turns, in their order
// from (0, 1) on: what a point not of Base becomes by the order.
func turns() []api.Point {
	y := read("\xc7\x17\x6a\x70\x3d\x4d\xd8\x4f\xba\x3c\x0b\x76\x0d\x10\x67\x0f\x2a\x20\x53\xfa\x2c\x39\xcc\xc6\x4e\xc7\xfd\x77\x92\xac\x03\x7a")
	x, _ := across(y)
	l := []api.Point{nought()}
	for range 7 {
		l = append(l, sum(l[len(l)-1], at(x, y)))
	}
	return l
}

// family are n points: products of Base, and sums of them and of turns.
func family(n int) []api.Point {
	l := []api.Point{base()}
	eight := turns()
	for len(l) < n {
		p := sum(l[len(l)-1], l[len(l)/2])
		l = append(l, sum(p, eight[len(l)%8]))
	}
	return l
}

// points are points of all kinds.
func points() []api.Point {
	l := slices.Concat(turns(), []api.Point{base(), about(base())}, family(12))
	for _, n := range []int64{-1, 1, 2} {
		l = append(l, often(plus(order(), n), base()))
	}
	return l
}

// ordinary is n numbers without a rule that is to be seen.
func ordinary(n int) []api.Num {
	var l []api.Num
	x := uint64(8)
	for range n {
		var a api.Num
		for i := range a {
			x = x*6364136223846793005 + 1442695040888963407
			a[i] = x ^ x>>29
		}
		l = append(l, a)
	}
	return l
}

// edges are the numbers about 0, the prime, 2^255, twice the prime and 2^256.
func edges() []api.Num {
	var l []api.Num
	for _, x := range []*big.Int{new(big.Int), prime, power(255), new(big.Int).Lsh(prime, 1), power(256)} {
		for n := int64(-3); n <= 3; n++ {
			if y := plus(x, n); y.Sign() >= 0 && y.BitLen() <= 256 {
				l = append(l, num(y))
			}
		}
	}
	return l
}

// factors are numbers by which points are multiplied: of one bit and of many,
// about the order and what is whole times it, the least and the greatest.
func factors() []api.Num {
	l := slices.Concat(edges(), ordinary(12))
	for _, n := range []int64{1, 2, 4, 8, 15} {
		x := new(big.Int).Mul(order(), big.NewInt(n))
		for m := int64(-2); m <= 2; m++ {
			l = append(l, num(plus(x, m)))
		}
	}
	for _, n := range []uint{63, 64, 65, 127, 128, 191, 192, 252, 253, 254, 255} {
		l = append(l, num(power(n)), num(plus(power(n), -1)))
	}
	return append(l, api.Num{0, most}, api.Num{most, 0, most}, api.Num{0, 0, most, most})
}

// 8.1: On

func wantOn(t *testing.T, p api.Point, want bool) {
	t.Helper()
	if got := point.On(p); got != want {
		t.Errorf("8.1: On(%x): %v, want %v", p, got, want)
	}
}

func TestOn(t *testing.T) {
	for _, p := range points() {
		x, y := number(p.X), number(p.Y)
		wantOn(t, p, true)
		wantOn(t, at(minus(x), y), true)
		wantOn(t, at(x, minus(y)), true)
		wantOn(t, at(minus(x), minus(y)), true)
	}
}

func TestOnOfEdges(t *testing.T) {
	turn := new(big.Int).ModSqrt(small(-1), prime)
	for _, c := range []struct {
		x, y *big.Int
		want bool
	}{
		{small(0), small(1), true}, {small(0), small(-1), true},
		{turn, small(0), true}, {minus(turn), small(0), true},
		{small(0), small(0), false}, {small(1), small(0), false}, {small(-1), small(0), false},
		{small(1), small(1), false}, {small(0), small(2), false}, {small(0), turn, false},
		{turn, small(1), false}, {turn, turn, false}, {small(0), small(-2), false},
	} {
		wantOn(t, at(c.x, c.y), c.want)
	}
	wantOn(t, api.Point{}, false)
	wantOn(t, api.Point{X: last(), Y: last()}, false)
}

// Points beside those that are of the curve.
func TestOnOfOthers(t *testing.T) {
	for _, p := range points() {
		x, y := number(p.X), number(p.Y)
		for _, q := range []api.Point{
			at(y, x), at(times(plus(x, 1)), y), at(x, times(plus(y, 1))), at(times(plus(x, -1)), y),
			at(x, times(plus(y, -1))), at(x, x), at(y, y), at(times(x, small(2)), y), at(x, times(y, small(2))),
		} {
			wantOn(t, q, on(q))
		}
		for i := range 255 {
			q := p
			q.X[i/64] ^= 1 << (i % 64)
			wantOn(t, q, on(q))
			q = p
			q.Y[i/64] ^= 1 << (i % 64)
			wantOn(t, q, on(q))
		}
	}
}

// Every pair of some numbers, of which few are points.
func TestOnOfNumbers(t *testing.T) {
	l := slices.Concat(edges(), ordinary(20))
	for _, p := range points() {
		l = append(l, p.X, p.Y)
	}
	some := 0
	for _, x := range l {
		for _, y := range l {
			p := api.Point{X: x, Y: y}
			wantOn(t, p, on(p))
			if on(p) {
				some++
			}
		}
	}
	if some < 20 {
		t.Error("the test's own:", some)
	}
}

// A number from the prime on is none of a point, even if less the prime it is.
func TestOnOfNumbersFromThePrimeOn(t *testing.T) {
	l := points()
	for n := range int64(40) {
		if x, ok := across(small(n)); ok {
			l = append(l, at(x, small(n)))
		}
		if y, ok := along(small(n)); ok {
			l = append(l, at(small(n), y))
		}
	}
	for _, p := range l {
		wantOn(t, p, true)
		for _, x := range again(p.X) {
			for _, y := range again(p.Y) {
				q := api.Point{X: x, Y: y}
				wantOn(t, q, q == p)
			}
		}
	}
}

// again are a, and all numbers above it that less the prime, or twice it, are a.
func again(a api.Num) []api.Num {
	var l []api.Num
	for x := number(a); x.BitLen() <= 256; x.Add(x, prime) {
		l = append(l, num(x))
	}
	return l
}

// 8.1: Base

func TestExample(t *testing.T) {
	want := "\x58" + strings.Repeat("\x66", 31)
	if got := point.Bytes(point.Base()); got != want {
		t.Errorf("8: bytes of Base: %q, want %q", got, want)
	}
}

func TestBase(t *testing.T) {
	b := point.Base()
	if b != base() || !point.On(b) {
		t.Errorf("8.1: Base: %x, want %x", b, base())
	}
	if times(number(b.Y), big.NewInt(5)).Cmp(big.NewInt(4)) != 0 || b.X[0]%2 > 0 {
		t.Errorf("8.1: Base: %x", b)
	}
	b.X[0]++
	b.Y = api.Num{}
	if point.Base() != base() {
		t.Error("R3: what Base told was written into, and Base tells it")
	}
}

// 8.1: Add

func wantAdd(t *testing.T, p, q, want api.Point) {
	t.Helper()
	if got := point.Add(p, q); got != want {
		t.Errorf("8.1: Add(%x, %x): %x, want %x", p, q, got, want)
	}
}

// Each of all points and each, itself among them.
func TestAdd(t *testing.T) {
	l := points()
	for _, p := range l {
		for _, q := range l {
			wantAdd(t, p, q, sum(p, q))
		}
	}
}

func TestAddOfEdges(t *testing.T) {
	turn := new(big.Int).ModSqrt(small(-1), prime)
	half, quarter := at(small(0), small(-1)), at(turn, small(0))
	for _, p := range points() {
		x, y := number(p.X), number(p.Y)
		wantAdd(t, p, nought(), p)
		wantAdd(t, nought(), p, p)
		wantAdd(t, p, about(p), nought())
		wantAdd(t, about(p), p, nought())
		// Two turns turn both numbers about, four change them for one another.
		wantAdd(t, p, half, at(minus(x), minus(y)))
		wantAdd(t, half, p, at(minus(x), minus(y)))
		wantAdd(t, p, quarter, at(times(turn, y), times(turn, x)))
		wantAdd(t, p, about(quarter), at(minus(times(turn, y)), minus(times(turn, x))))
	}
	wantAdd(t, half, half, nought())
	wantAdd(t, quarter, quarter, half)
	wantAdd(t, quarter, about(quarter), nought())
	wantAdd(t, base(), base(), often(big.NewInt(2), base()))
}

// Eight points that come round.
func TestAddOfTurns(t *testing.T) {
	l := turns()
	for i, p := range l {
		for k, q := range l {
			wantAdd(t, p, q, l[(i+k)%8])
		}
	}
}

// 8.1: Mul

func wantMul(t *testing.T, k api.Num, p, want api.Point) {
	t.Helper()
	if got := point.Mul(k, p); got != want {
		t.Errorf("8.1: Mul(%x, %x): %x, want %x", k, p, got, want)
	}
}

// Sums of points, one by one.
func TestMulOfSmallNumbers(t *testing.T) {
	for _, p := range points() {
		n := nought()
		for k := range uint64(40) {
			wantMul(t, api.Num{k}, p, n)
			n = sum(n, p)
		}
	}
}

func TestMulOfEachBit(t *testing.T) {
	for _, p := range []api.Point{base(), family(9)[8], turns()[1]} {
		want := p
		for bit := range uint(256) {
			wantMul(t, num(power(bit)), p, want)
			want = sum(want, want)
		}
	}
}

func TestMul(t *testing.T) {
	l := points()
	for i, k := range factors() {
		for _, p := range []api.Point{base(), l[i%len(l)]} {
			wantMul(t, k, p, often(number(k), p))
		}
	}
}

// Of what Base makes only what is left by the order counts.
func TestMulOfTheOrder(t *testing.T) {
	b := base()
	for n := int64(1); n < 16; n++ {
		x := new(big.Int).Mul(order(), big.NewInt(n))
		wantMul(t, num(x), b, nought())
		wantMul(t, num(plus(x, 1)), b, b)
		wantMul(t, num(plus(x, -1)), b, about(b))
		wantMul(t, num(plus(x, 5)), b, often(big.NewInt(5), b))
	}
	rest := new(big.Int).Mod(number(last()), order())
	wantMul(t, last(), b, often(rest, b))
}

// Of the eight points that come round only what is left by eight counts.
func TestMulOfTurns(t *testing.T) {
	l := turns()
	for _, k := range factors() {
		for i, p := range l {
			wantMul(t, k, p, l[uint64(i)*k[0]%8])
		}
	}
}

func TestMulOfEdges(t *testing.T) {
	for _, p := range points() {
		wantMul(t, api.Num{}, p, nought())
		wantMul(t, api.Num{1}, p, p)
		wantMul(t, api.Num{2}, p, sum(p, p))
		// Eight times the order is what every point comes round by.
		wantMul(t, num(new(big.Int).Lsh(order(), 3)), p, nought())
		wantMul(t, num(plus(new(big.Int).Lsh(order(), 3), -1)), p, about(p))
	}
	for _, k := range factors() {
		wantMul(t, k, nought(), nought())
	}
}

// A product by a sum is a sum of products, and a product of a sum too.
func TestMulOfSums(t *testing.T) {
	l := points()
	for i, a := range ordinary(20) {
		a[3] >>= 1
		b := ordinary(20)[19-i]
		b[3] >>= 1
		p, q := l[i], l[len(l)-1-i]
		k := num(new(big.Int).Add(number(a), number(b)))
		wantMul(t, k, p, sum(point.Mul(a, p), point.Mul(b, p)))
		wantMul(t, a, sum(p, q), sum(point.Mul(a, p), point.Mul(a, q)))
	}
}

// The library's public keys are bytes of such products.
func TestAsTheLibraryMakesKeys(t *testing.T) {
	for n := range 20 {
		seed := strings.Repeat(string(rune('a'+n)), 32)
		key := ed25519.NewKeyFromSeed([]byte(seed))
		h := sha512.Sum512([]byte(seed))
		h[0] &= 248
		h[31] = h[31]&127 | 64
		p := point.Mul(num(read(string(h[:32]))), point.Base())
		if got := point.Bytes(p); got != string(key[32:]) {
			t.Errorf("8.1: a key of %q: %q, want %q", seed[:1], got, key[32:])
		}
	}
}

// 8.2: Bytes

func wantBytes(t *testing.T, p api.Point, want string) {
	t.Helper()
	if got := point.Bytes(p); got != want {
		t.Errorf("8.2: Bytes(%x): %q, want %q", p, got, want)
	}
}

// told is the bytes of p as 8.2 tells them.
func told(p api.Point) string {
	y := number(p.Y)
	if p.X[0]%2 > 0 {
		y.Or(y, power(255))
	}
	return raw(y)
}

func TestBytes(t *testing.T) {
	for _, p := range points() {
		wantBytes(t, p, told(p))
		wantBytes(t, about(p), told(about(p)))
	}
}

func TestBytesOfEdges(t *testing.T) {
	turn := new(big.Int).ModSqrt(small(-1), prime)
	if turn.Bit(0) > 0 {
		turn.Sub(prime, turn)
	}
	zeros := strings.Repeat("\x00", 31)
	for _, c := range []struct {
		p    api.Point
		want string
	}{
		{nought(), "\x01" + zeros},
		{at(small(0), small(-1)), "\xec" + strings.Repeat("\xff", 30) + "\x7f"},
		{at(turn, small(0)), "\x00" + zeros},
		{at(minus(turn), small(0)), zeros + "\x80"},
		{base(), "\x58" + strings.Repeat("\x66", 31)},
		{about(base()), "\x58" + strings.Repeat("\x66", 30) + "\xe6"},
		{at(number(base().X), minus(number(base().Y))), "\x95" + strings.Repeat("\x99", 30) + "\x19"},
		{at(minus(number(base().X)), minus(number(base().Y))), "\x95" + strings.Repeat("\x99", 31)},
	} {
		wantBytes(t, c.p, c.want)
		wantFrom(t, c.want, c.p)
	}
}

// 8.2: From

func wantFrom(t *testing.T, s string, want api.Point) {
	t.Helper()
	p, ok := point.From(s)
	if !ok || p != want {
		t.Errorf("8.2: From(%q): %x, %v, want %x", s, p, ok, want)
	}
}

func wantNone(t *testing.T, s string) {
	t.Helper()
	p, ok := point.From(s)
	if ok || p != (api.Point{}) {
		t.Errorf("8.2: From of %d bytes, %.40q: %x, %v, want none", len(s), s, p, ok)
	}
}

func TestFrom(t *testing.T) {
	for _, p := range points() {
		wantFrom(t, told(p), p)
		wantFrom(t, told(about(p)), about(p))
	}
}

// wantOf tells what From must tell of the bytes of y, with the highest bit and
// without, and whether there is a point of them.
func wantOf(t *testing.T, y *big.Int) bool {
	t.Helper()
	x, ok := across(y)
	even, odd := raw(y), raw(new(big.Int).Or(y, power(255)))
	switch {
	case !ok:
		wantNone(t, even)
		wantNone(t, odd)
	case x.Sign() == 0:
		wantFrom(t, even, at(x, y))
		wantNone(t, odd)
	default:
		wantFrom(t, even, at(x, y))
		wantFrom(t, odd, at(minus(x), y))
	}
	return ok
}

// Each Y below 300, each as far below the prime, and ordinary ones.
func TestFromOfEachY(t *testing.T) {
	var l []*big.Int
	for n := int64(-300); n < 300; n++ {
		l = append(l, small(n))
	}
	for _, a := range ordinary(200) {
		l = append(l, new(big.Int).Mod(number(a), prime))
	}
	some, none := 0, 0
	for _, y := range l {
		if wantOf(t, y) {
			some++
		} else {
			none++
		}
	}
	if some < 200 || none < 200 {
		t.Error("the test's own:", some, none)
	}
}

// Bytes of a point with one bit turned.
func TestFromOfTurnedBits(t *testing.T) {
	for _, p := range []api.Point{base(), nought(), family(5)[4]} {
		for bit := range uint(255) {
			y := new(big.Int).Xor(number(p.Y), power(bit))
			if y.Cmp(prime) < 0 {
				wantOf(t, y)
			}
		}
	}
}

func TestFromOfEdges(t *testing.T) {
	zeros := strings.Repeat("\x00", 31)
	wantFrom(t, "\x01"+zeros, nought())
	wantFrom(t, "\xec"+strings.Repeat("\xff", 30)+"\x7f", at(small(0), small(-1)))
	for _, s := range []string{
		// An X of 0 is not odd.
		"\x01" + zeros[:30] + "\x80", "\xec" + strings.Repeat("\xff", 31),
		// To these Y there is no X.
		"\x02" + zeros, "\x02" + zeros[:30] + "\x80", "\x07" + zeros, "\xeb" + strings.Repeat("\xff", 30) + "\x7f",
	} {
		wantNone(t, s)
	}
}

// A Y from the prime on is none, even if less the prime it is.
func TestFromOfYFromThePrimeOn(t *testing.T) {
	less := 0
	for n := range int64(19) {
		if _, ok := across(small(n)); ok {
			less++
		}
		y := plus(prime, n)
		wantNone(t, raw(y))
		wantNone(t, raw(new(big.Int).Or(y, power(255))))
	}
	if less < 5 {
		t.Error("the test's own:", less)
	}
}

func TestFromOfOtherLengths(t *testing.T) {
	for n := range 200 {
		for _, b := range []string{"\x00", "\x01", "\x66", "\x7f", "\xff", "a"} {
			if s := strings.Repeat(b, n); n != 32 {
				wantNone(t, s)
			}
		}
	}
	for _, p := range points() {
		s := told(p)
		for _, wrong := range []string{
			s[:31], s[1:], s + "\x00", "\x00" + s, s + s, s[:31] + "\x00" + s[31:], s + s[31:],
			s + strings.Repeat("\x00", 1<<16), strings.Repeat(s, 1<<12),
		} {
			wantNone(t, wrong)
		}
	}
	for _, s := range []string{"", "5", "0x5", "\u00e4", strings.Repeat("\u00e4", 32), strings.Repeat("\x66", 1<<24)} {
		wantNone(t, s)
	}
}

// 32 bytes are read whether or not they make runes.
func TestFromOfRunes(t *testing.T) {
	for n := range 64 {
		s := strings.Repeat("\u00e4", 15) + string([]byte{byte(n), 0x28})
		wantOf(t, read(s))
	}
}

// 8.2: What Bytes tells From reads, and what From read Bytes tells.
func TestToldIsRead(t *testing.T) {
	for _, p := range points() {
		wantFrom(t, point.Bytes(p), p)
	}
	for _, a := range ordinary(200) {
		s := raw(number(a))
		if p, ok := point.From(s); ok && (point.Bytes(p) != s || !point.On(p)) {
			t.Errorf("8.2: From(%q): %x", s, p)
		}
	}
}

// 8.3

func TestSumsAreOn(t *testing.T) {
	l := points()
	for i, p := range l {
		for k, q := range l {
			s := point.Add(p, q)
			if !point.On(s) || !on(s) || s != point.Add(q, p) {
				t.Errorf("8.3: Add(%x, %x): %x", p, q, s)
			}
			o := l[(i+5*k)%len(l)]
			if point.Add(s, o) != point.Add(p, point.Add(q, o)) {
				t.Errorf("8.3: %x, %x and %x added", p, q, o)
			}
		}
	}
	for i, k := range factors() {
		if p := point.Mul(k, l[i%len(l)]); !point.On(p) || !on(p) {
			t.Errorf("8.3: Mul(%x, %x): %x", k, l[i%len(l)], p)
		}
	}
}

// R1: every call ends without a panic, of points that are not On too.
func TestAnythingEnds(t *testing.T) {
	b := point.Base()
	l := edges()
	for i, x := range l {
		for k, y := range l {
			p := api.Point{X: x, Y: y}
			point.On(p)
			point.Bytes(p)
			point.Add(p, p)
			point.Add(p, b)
			point.Add(b, p)
			point.Add(p, api.Point{X: y, Y: x})
			if (i+k)%5 == 0 {
				point.Mul(l[(i*k)%len(l)], p)
			}
		}
	}
	// Of some of these a sum would be over 0: X X Y Y of both is 1 over d, or
	// minus that.
	x := over(big.NewInt(1), fraction)
	for _, p := range []api.Point{{}, at(x, small(1)), at(small(1), x), at(minus(x), small(1))} {
		for _, q := range []api.Point{{}, at(small(1), small(1)), at(small(-1), small(1))} {
			point.Add(p, q)
			point.Mul(last(), point.Add(p, q))
		}
	}
}

// R3

func TestNothingIsKept(t *testing.T) {
	text := told(base())
	b := []byte(text)
	p, ok := point.From(unsafe.String(&b[0], len(b)))
	if string(b) != text {
		t.Error("R3: what was handed in changed")
	}
	clear(b)
	if !ok || p != base() {
		t.Errorf("R3: what was told changed: %x", p)
	}
	s := point.Bytes(p)
	kept := strings.Clone(s)
	point.Bytes(about(p))
	if s != kept {
		t.Errorf("R3: what Bytes told changed: %q", s)
	}
}

// R1, R5: a call hangs on no call ahead of it.
func TestCallsDoNotTouch(t *testing.T) {
	l := append(family(4), nought(), api.Point{}, api.Point{X: last(), Y: last()}, turns()[1])
	var all []string
	for range 3 {
		var s string
		for i, p := range l {
			q, ok := point.From(point.Bytes(p))
			s += fmt.Sprintln(point.Base(), point.On(p), point.Bytes(p), q, ok, point.Mul(api.Num{uint64(i), 9}, p))
			for _, q := range l {
				s += fmt.Sprintln(point.Add(p, q))
			}
		}
		all = append(all, s)
	}
	if all[0] != all[1] || all[1] != all[2] {
		t.Error("R1: the same calls told something else")
	}
}
