package wide_test

import (
	"crypto/sha512"
	"encoding/hex"
	"math/big"
	"slices"
	"strings"
	"testing"
	"unsafe"

	"shelfmark/wide"
)

// primes is the first n of them.
func primes(n int) []int64 {
	var l []int64
	for p := int64(2); len(l) < n; p++ {
		if !slices.ContainsFunc(l, func(q int64) bool { return p%q == 0 }) {
			l = append(l, p)
		}
	}
	return l
}

// behindPoint is the first 64 bits behind the point of the root of p: the
// lowest 64 bits of the greatest number whose power is not above p, shifted.
func behindPoint(p, power int64) uint64 {
	top := new(big.Int).Lsh(big.NewInt(p), uint(64*power))
	root := new(big.Int)
	for bit := 72; bit >= 0; bit-- {
		more := new(big.Int).SetBit(root, bit, 1)
		if new(big.Int).Exp(more, big.NewInt(power), nil).Cmp(top) <= 0 {
			root = more
		}
	}
	last := new(big.Int).Lsh(big.NewInt(1), 64)
	return root.Mod(root, last).Uint64()
}

func roots(n int, power int64) []uint64 {
	var l []uint64
	for _, p := range primes(n) {
		l = append(l, behindPoint(p, power))
	}
	return l
}

// turned is x turned to the right by n bits.
func turned(x uint64, n int) uint64 {
	for range n {
		x = x/2 + x%2*(1<<63)
	}
	return x
}

// numbers is w of 128 bytes, word by word as 4.1 tells it.
func numbers(b []byte) []uint64 {
	var w []uint64
	for i := 0; i < 128; i += 8 {
		x := uint64(0)
		for _, c := range b[i : i+8] {
			x = x*256 + uint64(c)
		}
		w = append(w, x)
	}
	for i := 16; i < 80; i++ {
		x, y := w[i-15], w[i-2]
		f := turned(x, 1) ^ turned(x, 8) ^ x/128
		g := turned(y, 19) ^ turned(y, 61) ^ y/64
		w = append(w, w[i-16]+f+w[i-7]+g)
	}
	return w
}

// sum is the Sum of s, word by word as 3.1 and 4.1 tell it; k and now are the
// roots.
func sum(s string, k, now []uint64) string {
	b := append([]byte(s), 128)
	for len(b)%128 != 112 {
		b = append(b, 0)
	}
	b = append(b, make([]byte, 8)...)
	for i := 7; i >= 0; i-- {
		b = append(b, byte(8*len(s)>>(8*i)))
	}
	now = slices.Clone(now)
	for ; len(b) > 0; b = b[128:] {
		w, r := numbers(b[:128]), slices.Clone(now)
		for i := range 80 {
			a, e := r[0], r[4]
			u := r[7] + (turned(e, 14) ^ turned(e, 18) ^ turned(e, 41)) + ((e & r[5]) ^ (^e & r[6])) + k[i] + w[i]
			v := (turned(a, 28) ^ turned(a, 34) ^ turned(a, 39)) + ((a & r[1]) ^ (a & r[2]) ^ (r[1] & r[2]))
			r = []uint64{u + v, a, r[1], r[2], r[3] + u, e, r[5], r[6]}
		}
		for i := range now {
			now[i] += r[i]
		}
	}
	var out []byte
	for _, x := range now {
		for i := 56; i >= 0; i -= 8 {
			out = append(out, byte(x>>i))
		}
	}
	return string(out)
}

// known is SHA-512 of s.
func known(s string) string {
	h := sha512.Sum512([]byte(s))
	return string(h[:])
}

// every is n bytes, each other than those beside it, 0 and 255 among them.
func every(n int) string {
	b := make([]byte, n)
	for i := range b {
		b[i] = byte(i*7 + i/256)
	}
	return string(b)
}

// lengths is all those about the ends of the first two blocks, and others.
func lengths() []int {
	var l []int
	for n := range 300 {
		l = append(l, n)
	}
	return append(l, 367, 368, 383, 384, 385, 1000, 4095, 4096, 4097, 65536, 100001)
}

// texts are ordinary ones and the edges: nothing, each single byte, those of
// one byte alone, all lengths about the end of a block; and texts whose bytes
// are no runes.
func texts() []string {
	l := []string{
		"", "abc", "123456789", "/nix/store", "a\x00", "\x00a", "\x80", "\x80\x00",
		"\u00e4\u20ac\U0001f4da", "\xe2\x82", "\xc3\x28\r\n", "\xed\xa0\x80", "\xff\xfe",
		"abcdbcdecdefdefgefghfghighijhijkijkljklmklmnlmnomnopnopq",
	}
	for b := range 256 {
		l = append(l, string([]byte{byte(b)}))
	}
	for _, n := range lengths() {
		l = append(l, every(n), strings.Repeat("\x00", n), strings.Repeat("\xff", n))
	}
	return l
}

// 4.1: Consts

func TestConsts(t *testing.T) {
	l, want := wide.Consts(), roots(80, 3)
	if len(l) != 80 {
		t.Fatal("4.1: numbers of Consts:", len(l))
	}
	for i := range l {
		if l[i] != want[i] {
			t.Errorf("4.1: Consts at %d: %d, want %d", i, l[i], want[i])
		}
	}
	if l[0] != 0x428a2f98d728ae22 || l[1] != 0x7137449123ef65cd || l[79] != 0x6c44198c4a475817 {
		t.Error("4.1: Consts:", l[0], l[1], l[79])
	}
}

func TestConstsAreNewMemory(t *testing.T) {
	first, second := wide.Consts(), wide.Consts()
	want := slices.Clone(first)
	long := append(first, 1, 2, 3)
	for i := range first {
		first[i] ^= 0x5a5a5a5a5a5a5a5a
		long[i] ^= 0xa5a5a5a5a5a5a5a5
	}
	for i := range first[:cap(first)] {
		first[:cap(first)][i] = 7
	}
	if !slices.Equal(second, want) {
		t.Error("R3: Consts told ahead of it changed")
	}
	if !slices.Equal(wide.Consts(), want) {
		t.Error("R3: Consts told later changed")
	}
	for _, s := range texts() {
		if wide.Sum(s) != known(s) {
			t.Fatalf("R3: Sum of %d bytes changed", len(s))
		}
	}
}

// 4.1, 4.2: Sum

func TestSum(t *testing.T) {
	k, now := roots(80, 3), roots(8, 2)
	for _, s := range texts() {
		got := wide.Sum(s)
		if len(s) < 5000 && got != sum(s, k, now) {
			t.Errorf("4.1: Sum of %d bytes, %.20q: %x, want %x", len(s), s, got, sum(s, k, now))
		}
		if got != known(s) {
			t.Errorf("4.2: Sum of %d bytes, %.20q: %x, want %x", len(s), s, got, known(s))
		}
	}
}

func TestSumOfKnownTexts(t *testing.T) {
	for _, c := range [][2]string{
		{
			"",
			"cf83e1357eefb8bdf1542850d66d8007d620e4050b5715dc83f4a921d36ce9ce" +
				"47d0d13c5d85f2b0ff8318d2877eec2f63b931bd47417a81a538327af927da3e",
		},
		{
			"abc",
			"ddaf35a193617abacc417349ae20413112e6fa4e89a97ea20a9eeee64b55d39a" +
				"2192992a274fc1a836ba3c23a3feebbd454d4423643ce80e2a9ac94fa54ca49f",
		},
		{
			"abcdefghbcdefghicdefghijdefghijkefghijklfghijklmghijklmn" +
				"hijklmnoijklmnopjklmnopqklmnopqrlmnopqrsmnopqrstnopqrstu",
			"8e959b75dae313da8cf4f72814fc143f8f7779c6eb9f7fa17299aeadb6889018" +
				"501d289e4900f7e4331b99dec4b5433ac7d329eeb6dd26545e96e55b874be909",
		},
		{
			strings.Repeat("a", 1000000),
			"e718483d0ce769644e2e42c7bc15b4638e1f98b13b2044285632a803afa973eb" +
				"de0ff244877ea60a4cb0432ce577c31beb009c5c2c49aa2e4eadb217ad8cc09b",
		},
	} {
		if got := hex.EncodeToString([]byte(wide.Sum(c[0]))); got != c[1] {
			t.Errorf("4.2: Sum of %d bytes, %.20q: %s, want %s", len(c[0]), c[0], got, c[1])
		}
	}
}

// The example of the chapter.
func TestSumOfNothing(t *testing.T) {
	if h := wide.Sum(""); !strings.HasPrefix(h, string([]byte{207, 131, 225, 53})) {
		t.Errorf("4: Sum of nothing: %x", h)
	}
}

// Enough bytes that how many bits they have goes into no three bytes.
func TestSumOfManyBytes(t *testing.T) {
	s := strings.Repeat(every(1<<16), 1<<9) + "abc"
	if wide.Sum(s) != known(s) {
		t.Errorf("4.2: Sum of %d bytes: %x", len(s), wide.Sum(s))
	}
}

// No two of texts() are one in what is filled up, so no two Sums are.
func TestSumTellsTextsApart(t *testing.T) {
	have := map[string]string{}
	for _, s := range texts() {
		h := wide.Sum(s)
		if len(h) != 64 {
			t.Errorf("4.1: Sum of %d bytes has %d", len(s), len(h))
		}
		if other, ok := have[h]; ok && other != s {
			t.Errorf("4.1: Sum of %d bytes, %.20q, is that of %d, %.20q", len(s), s, len(other), other)
		}
		have[h] = s
	}
}

// R3

func TestSumKeepsNothing(t *testing.T) {
	for _, n := range []int{1, 111, 112, 127, 128, 129, 200, 256, 300} {
		s := every(n)
		b := []byte(s)
		h := wide.Sum(unsafe.String(&b[0], n))
		if string(b) != s {
			t.Errorf("R3: what was handed to Sum changed: %d bytes", n)
		}
		for i := range b {
			b[i] ^= 0x55
		}
		if h != known(s) || wide.Sum(string(b)) != known(string(b)) || wide.Sum(s) != h {
			t.Errorf("R3: Sum of %d bytes kept some", n)
		}
	}
}

// R1: a call hangs on no call ahead of it.
func TestCallsDoNotTouch(t *testing.T) {
	for range 3 {
		for _, s := range []string{"abc", "", every(128), "\x00", every(239)} {
			if wide.Sum(s) != known(s) || wide.Consts()[0] != 0x428a2f98d728ae22 {
				t.Errorf("R1: calls of %d bytes", len(s))
			}
		}
	}
}
