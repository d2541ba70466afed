package sha_test

import (
	"crypto/sha256"
	"encoding/hex"
	"math/big"
	"slices"
	"strings"
	"testing"
	"unsafe"

	"shelfmark/sha"
)

// primes is the first n of them.
func primes(n int) []int64 {
	var l []int64
	for p := int64(2); len(l) < n; p++ {
		if !slices.ContainsFunc(l, func(q int64) bool { return p%q == 0 }) {
			l = append(l, p)
		}
	}
	return l
}

// behindPoint is the first 32 bits behind the point of the root of p: the
// lowest 32 bits of the greatest number whose power is not above p, shifted.
func behindPoint(p, power int64) uint32 {
	top := new(big.Int).Lsh(big.NewInt(p), uint(32*power))
	root := new(big.Int)
	for bit := 40; bit >= 0; bit-- {
		more := new(big.Int).SetBit(root, bit, 1)
		if new(big.Int).Exp(more, big.NewInt(power), nil).Cmp(top) <= 0 {
			root = more
		}
	}
	return uint32(root.Uint64())
}

func roots(n int, power int64) []uint32 {
	var l []uint32
	for _, p := range primes(n) {
		l = append(l, behindPoint(p, power))
	}
	return l
}

// turned is x turned to the right by n bits.
func turned(x uint32, n int) uint32 {
	for range n {
		x = x/2 + x%2*(1<<31)
	}
	return x
}

// numbers is w of 64 bytes, word by word as 3.1 tells it.
func numbers(b []byte) []uint32 {
	var w []uint32
	for i := 0; i < 64; i += 4 {
		w = append(w, ((uint32(b[i])*256+uint32(b[i+1]))*256+uint32(b[i+2]))*256+uint32(b[i+3]))
	}
	for i := 16; i < 64; i++ {
		x, y := w[i-15], w[i-2]
		f := turned(x, 7) ^ turned(x, 18) ^ x/8
		g := turned(y, 17) ^ turned(y, 19) ^ y/1024
		w = append(w, w[i-16]+f+w[i-7]+g)
	}
	return w
}

// sum is the Sum of s, word by word as 3.1 tells it; k and now are the roots.
func sum(s string, k, now []uint32) string {
	b := append([]byte(s), 128)
	for len(b)%64 != 56 {
		b = append(b, 0)
	}
	for i := 7; i >= 0; i-- {
		b = append(b, byte(8*len(s)>>(8*i)))
	}
	now = slices.Clone(now)
	for ; len(b) > 0; b = b[64:] {
		w, r := numbers(b[:64]), slices.Clone(now)
		for i := range 64 {
			a, e := r[0], r[4]
			u := r[7] + (turned(e, 6) ^ turned(e, 11) ^ turned(e, 25)) + ((e & r[5]) ^ (^e & r[6])) + k[i] + w[i]
			v := (turned(a, 2) ^ turned(a, 13) ^ turned(a, 22)) + ((a & r[1]) ^ (a & r[2]) ^ (r[1] & r[2]))
			r = []uint32{u + v, a, r[1], r[2], r[3] + u, e, r[5], r[6]}
		}
		for i := range now {
			now[i] += r[i]
		}
	}
	var out []byte
	for _, x := range now {
		out = append(out, byte(x/(1<<24)), byte(x/(1<<16)), byte(x/256), byte(x))
	}
	return string(out)
}

// known is SHA-256 of s.
func known(s string) string {
	h := sha256.Sum256([]byte(s))
	return string(h[:])
}

// every is n bytes, each other than those beside it, 0 and 255 among them.
func every(n int) string {
	b := make([]byte, n)
	for i := range b {
		b[i] = byte(i*7 + i/256)
	}
	return string(b)
}

// lengths are those about the ends of blocks, and others.
func lengths() []int {
	var l []int
	for n := range 200 {
		l = append(l, n)
	}
	return append(l, 247, 248, 255, 256, 257, 1000, 4095, 4096, 4097, 65536, 100001)
}

// texts are ordinary ones and the edges: nothing, each single byte, those of
// one byte alone, all lengths about the end of a block.
func texts() []string {
	l := []string{
		"", "abc", "123456789", "/nix/store", "a\x00", "\x00a", "\x80", "\x80\x00",
		"\u00e4\u20ac\U0001f4da", "\xe2\x82", "\xc3\x28\r\n",
		"abcdbcdecdefdefgefghfghighijhijkijkljklmklmnlmnomnopnopq",
	}
	for b := range 256 {
		l = append(l, string([]byte{byte(b)}))
	}
	for _, n := range lengths() {
		l = append(l, every(n), strings.Repeat("\x00", n), strings.Repeat("\xff", n))
	}
	return l
}

func wantState(t *testing.T, x *sha.State, s string) {
	t.Helper()
	if got := x.Sum(); got != known(s) {
		t.Errorf("3.2: Sum behind %d bytes: %x, want %x", len(s), got, known(s))
	}
	if x.Len() != len(s) {
		t.Errorf("3.2: Len behind %d bytes: %d", len(s), x.Len())
	}
}

// 3.1: Consts

func TestConsts(t *testing.T) {
	l, want := sha.Consts(), roots(64, 3)
	if len(l) != 64 {
		t.Fatal("3.1: numbers of Consts:", len(l))
	}
	for i := range l {
		if l[i] != want[i] {
			t.Errorf("3.1: Consts at %d: %d, want %d", i, l[i], want[i])
		}
	}
	if l[0] != 0x428a2f98 || l[1] != 0x71374491 || l[63] != 0xc67178f2 {
		t.Error("3.1: Consts:", l[0], l[1], l[63])
	}
}

func TestConstsAreNewMemory(t *testing.T) {
	x := sha.New()
	x.Write("abc")
	first, second := sha.Consts(), sha.Consts()
	want := slices.Clone(first)
	long := append(first, 1, 2, 3)
	for i := range first {
		first[i] ^= 0x5a5a5a5a
		long[i] ^= 0xa5a5a5a5
	}
	for i := range first[:cap(first)] {
		first[:cap(first)][i] = 7
	}
	if !slices.Equal(second, want) {
		t.Error("R3: Consts told ahead of it changed")
	}
	if !slices.Equal(sha.Consts(), want) {
		t.Error("R3: Consts told later changed")
	}
	wantState(t, x, "abc")
	for _, s := range texts() {
		if sha.Sum(s) != known(s) {
			t.Fatalf("R3: Sum of %d bytes changed", len(s))
		}
	}
}

// 3.1, 3.3: Sum

func TestSum(t *testing.T) {
	k, now := roots(64, 3), roots(8, 2)
	for _, s := range texts() {
		got := sha.Sum(s)
		if len(s) < 5000 && got != sum(s, k, now) {
			t.Errorf("3.1: Sum of %d bytes, %.20q: %x, want %x", len(s), s, got, sum(s, k, now))
		}
		if got != known(s) {
			t.Errorf("3.3: Sum of %d bytes, %.20q: %x, want %x", len(s), s, got, known(s))
		}
	}
}

func TestSumOfKnownTexts(t *testing.T) {
	for _, c := range [][2]string{
		{"", "e3b0c44298fc1c149afbf4c8996fb92427ae41e4649b934ca495991b7852b855"},
		{"abc", "ba7816bf8f01cfea414140de5dae2223b00361a396177a9cb410ff61f20015ad"},
		{
			"abcdbcdecdefdefgefghfghighijhijkijkljklmklmnlmnomnopnopq",
			"248d6a61d20638b8e5c026930c3e6039a33ce45964ff2167f6ecedd419db06c1",
		},
		{
			strings.Repeat("a", 1000000),
			"cdc76e5c9914fb9281a1c7e284d73e67f1809a48a497200e046d39ccc7112cd0",
		},
	} {
		if got := hex.EncodeToString([]byte(sha.Sum(c[0]))); got != c[1] {
			t.Errorf("3.3: Sum of %d bytes, %.20q: %s, want %s", len(c[0]), c[0], got, c[1])
		}
	}
}

// No two of texts() are one in what is filled up, so no two Sums are.
func TestSumTellsTextsApart(t *testing.T) {
	have := map[string]string{}
	for _, s := range texts() {
		h := sha.Sum(s)
		if len(h) != 32 {
			t.Errorf("3.1: Sum of %d bytes has %d", len(s), len(h))
		}
		if other, ok := have[h]; ok && other != s {
			t.Errorf("3.1: Sum of %d bytes, %.20q, is that of %d, %.20q", len(s), s, len(other), other)
		}
		have[h] = s
	}
}

// 3.2: State

func TestStateOfNothing(t *testing.T) {
	x := sha.New()
	if x == nil {
		t.Fatal("3.2: New is nil")
	}
	wantState(t, x, "")
	wantState(t, x, "")
	x.Write("")
	wantState(t, x, "")
	x.Write("")
	x.Write("a")
	wantState(t, x, "a")
}

func TestStateInOnePiece(t *testing.T) {
	for _, s := range texts() {
		x := sha.New()
		x.Write(s)
		wantState(t, x, s)
		wantState(t, x, s)
	}
}

// Each place at which a text of up to three blocks may be cut in two.
func TestStateInTwoPieces(t *testing.T) {
	for _, n := range []int{1, 54, 55, 56, 57, 63, 64, 65, 66, 118, 119, 120, 127, 128, 129, 130, 192} {
		s := every(n)
		for cut := range n + 1 {
			quiet, asked := sha.New(), sha.New()
			quiet.Write(s[:cut])
			quiet.Write(s[cut:])
			wantState(t, quiet, s)
			asked.Write(s[:cut])
			wantState(t, asked, s[:cut])
			wantState(t, asked, s[:cut])
			asked.Write("")
			wantState(t, asked, s[:cut])
			asked.Write(s[cut:])
			wantState(t, asked, s)
		}
	}
}

func TestStateInManyPieces(t *testing.T) {
	s := every(1000)
	for _, size := range []int{1, 2, 3, 7, 55, 56, 57, 63, 64, 65, 127, 128, 129, 999} {
		quiet, asked := sha.New(), sha.New()
		for at := 0; at < len(s); at += size {
			end := min(len(s), at+size)
			quiet.Write(s[at:end])
			asked.Write("")
			asked.Write(s[at:end])
			wantState(t, asked, s[:end])
		}
		wantState(t, quiet, s)
	}
}

// Pieces of all sizes from 0 to 200, each behind another rest of a block.
func TestStateInPiecesThatGrow(t *testing.T) {
	x, all := sha.New(), ""
	for n := range 201 {
		piece := every(300)[n/2 : n/2+n]
		x.Write(piece)
		all += piece
		wantState(t, x, all)
	}
}

// More than 2^32 bits: how long it is does not go into four bytes.
func TestStateOfManyBytes(t *testing.T) {
	x, want := sha.New(), sha256.New()
	piece := every(1 << 20)
	for range 1 << 9 {
		x.Write(piece)
		want.Write([]byte(piece))
	}
	x.Write("abc")
	want.Write([]byte("abc"))
	if x.Sum() != string(want.Sum(nil)) || x.Len() != 1<<29+3 {
		t.Errorf("3.2: %d bytes: %x", x.Len(), x.Sum())
	}
}

func TestNilState(t *testing.T) {
	var none *sha.State
	for _, s := range []string{"", "x", every(200)} {
		none.Write(s)
		if none.Sum() != "" || none.Len() != 0 {
			t.Errorf("3.2: nil behind %d bytes: %q, %d", len(s), none.Sum(), none.Len())
		}
	}
	wantState(t, sha.New(), "")
}

// Nothing came to a state that New did not make.
func TestStateWithoutNew(t *testing.T) {
	var x sha.State
	wantState(t, &x, "")
	x.Write("abc")
	wantState(t, &x, "abc")
}

// R3

func TestWriteKeepsNothing(t *testing.T) {
	for _, n := range []int{1, 55, 63, 64, 65, 100, 128, 200} {
		s := every(n)
		b := []byte(s)
		x := sha.New()
		x.Write("ab")
		x.Write(unsafe.String(&b[0], n))
		if string(b) != s {
			t.Errorf("R3: what was handed to Write changed: %d bytes", n)
		}
		for i := range b {
			b[i] ^= 0x55
		}
		wantState(t, x, "ab"+s)
		x.Write("c")
		wantState(t, x, "ab"+s+"c")
	}
}

func TestToldSumStays(t *testing.T) {
	x := sha.New()
	x.Write("abc")
	told := x.Sum()
	x.Write(every(100))
	x.Sum()
	if told != known("abc") {
		t.Error("R3: a Sum that was told changed")
	}
}

// R5

func TestStatesDoNotTouch(t *testing.T) {
	a, b, idle := sha.New(), sha.New(), sha.New()
	inA, inB := "", ""
	for n := range 140 {
		pieceA, pieceB := every(n), strings.Repeat("\xff", 140-n)
		a.Write(pieceA)
		b.Write(pieceB)
		inA, inB = inA+pieceA, inB+pieceB
		wantState(t, a, inA)
		wantState(t, b, inB)
	}
	wantState(t, idle, "")
}

func TestSameCallsTellTheSame(t *testing.T) {
	a, b := sha.New(), sha.New()
	for _, s := range []string{"x", "", every(63), every(64), "\x00", every(130)} {
		a.Write(s)
		b.Write(s)
		if a.Sum() != b.Sum() || a.Len() != b.Len() {
			t.Errorf("R5: two states behind the same calls: %x, %x", a.Sum(), b.Sum())
		}
	}
}

// R1: a Sum hangs on no call ahead of it.
func TestCallsDoNotTouch(t *testing.T) {
	x := sha.New()
	for range 3 {
		for _, s := range []string{"abc", "", every(64), "\x00", every(119)} {
			x.Write(s)
			if sha.Sum(s) != known(s) || sha.Consts()[0] != 0x428a2f98 {
				t.Errorf("R1: calls of %d bytes", len(s))
			}
		}
	}
}
