package crc_test

import (
	"encoding/binary"
	"hash/crc32"
	"slices"
	"strings"
	"testing"
	"unsafe"

	"shelfmark/crc"
)

// number is the number of the table at i, word by word as 2.1 tells it.
func number(i int) uint32 {
	n := uint32(i)
	for range 8 {
		odd := n%2 == 1
		n /= 2
		if odd {
			n ^= 3988292384
		}
	}
	return n
}

// sum is the sum of s, word by word as 2.1 tells it.
func sum(s string) uint32 {
	n := uint32(4294967295)
	for _, b := range []byte(s) {
		n = n/256 ^ number(int(byte(n%256)^b))
	}
	return 4294967295 - n
}

// put is what Put tells of s.
func put(s string) string {
	return string(binary.LittleEndian.AppendUint32([]byte(s), crc32.ChecksumIEEE([]byte(s))))
}

// every is each byte once, from 0 to 255.
func every() string {
	b := make([]byte, 256)
	for i := range b {
		b[i] = byte(i)
	}
	return string(b)
}

// texts are ordinary ones and the edges: nothing, each single byte, all of
// fewer than eight bytes of some sort, noughts ahead, sectors, long ones.
func texts() []string {
	l := []string{
		"", "a", "ab", "abc", "abcd", "abcde", "123456789", "/nix/store",
		"\x00", "\x00\x00", "\x00\x00\x00", "\x00\x00\x00\x00", "\x00\x00\x00\x00\x00",
		"\xff", "\xff\xff", "\xff\xff\xff", "\xff\xff\xff\xff", "\xff\xff\xff\xff\xff",
		"\x00abc", "\x00\x00abc", "\x00\x00\x00\x00abc", "abc\x00", "abc\x00\x00\x00\x00",
		"\u00e4\u20ac\U0001f4da", "\xe2\x82", "\xc3\x28\r\n", every(), every()[128:] + every(),
		strings.Repeat("\x00", 64), strings.Repeat("\xff", 64), strings.Repeat("ab\x00\xff", 15),
		strings.Repeat(every(), 512), strings.Repeat(every(), 300) + "x",
	}
	for _, b := range []byte(every()) {
		l = append(l, string([]byte{b}))
	}
	for n := range 70 {
		l = append(l, every()[200-n:200])
	}
	return l
}

func wantNone(t *testing.T, s string) {
	t.Helper()
	if x, ok := crc.Get(s); ok || x != "" {
		t.Errorf("2.2: Get(%q): %q, %v, want none", s, x, ok)
	}
}

func wantText(t *testing.T, s, want string) {
	t.Helper()
	if x, ok := crc.Get(s); !ok || x != want {
		t.Errorf("2.2: Get(%q): %q, %v, want %q", s, x, ok, want)
	}
}

// 2.1: Table

func TestTable(t *testing.T) {
	l := crc.Table()
	if len(l) != 256 {
		t.Fatal("2.1: numbers in the Table:", len(l))
	}
	for i, n := range l {
		if n != number(i) || n != crc32.IEEETable[i] {
			t.Errorf("2.1: Table at %d: %d, want %d", i, n, number(i))
		}
	}
	if l[0] != 0 || l[1] != 1996959894 || l[128] != 3988292384 || l[255] != 755167117 {
		t.Error("2.1: Table:", l[0], l[1], l[128], l[255])
	}
}

func TestTableIsNewMemory(t *testing.T) {
	first, second := crc.Table(), crc.Table()
	want := slices.Clone(first)
	long := append(first, 1, 2, 3)
	for i := range first {
		first[i] ^= 0x5a5a5a5a
		long[i] ^= 0xa5a5a5a5
	}
	for i := range first[:cap(first)] {
		first[:cap(first)][i] = 7
	}
	if !slices.Equal(second, want) {
		t.Error("R3: a Table told ahead of it changed")
	}
	if !slices.Equal(crc.Table(), want) {
		t.Error("R3: a Table told later changed")
	}
	for _, s := range texts() {
		if crc.Sum(s) != sum(s) || crc.Put(s) != put(s) {
			t.Fatalf("R3: Sum or Put of %d bytes changed", len(s))
		}
		wantText(t, put(s), s)
	}
}

// 2.1, 2.3: Sum

func TestSum(t *testing.T) {
	for _, s := range texts() {
		if got := crc.Sum(s); got != sum(s) || got != crc32.ChecksumIEEE([]byte(s)) {
			t.Errorf("2.1: Sum of %d bytes, %.20q: %d, want %d", len(s), s, got, sum(s))
		}
	}
}

func TestSumOfKnownTexts(t *testing.T) {
	for _, c := range []struct {
		s    string
		want uint32
	}{
		{"", 0},
		{"123456789", 3421780262},
		{"\x00", 3523407757},
		{"\xff", 4278190080},
		{"a", 3904355907},
		{"\x00\x00\x00\x00", 558161692},
		{"\xff\xff\xff\xff", 4294967295},
	} {
		if got := crc.Sum(c.s); got != c.want {
			t.Errorf("2.1, 2.3: Sum(%q): %d, want %d", c.s, got, c.want)
		}
	}
}

func TestSumOfNoughtsAheadAndOrder(t *testing.T) {
	have := map[uint32]string{}
	for _, s := range []string{
		"", "\x00", "\x00\x00", "\x00\x00\x00", "\x00\x00\x00\x00", "\x00\x00\x00\x00\x00",
		"ab", "ba", "\x00ab", "\x00\x00ab", "\x00\x00\x00\x00ab", "ab\x00", "ab\x00\x00\x00\x00",
	} {
		n := crc.Sum(s)
		if other, ok := have[n]; ok {
			t.Errorf("2.1: Sum of %q is that of %q", s, other)
		}
		have[n] = s
	}
}

// 2.2: Put

func TestPut(t *testing.T) {
	for _, s := range texts() {
		if got := crc.Put(s); got != put(s) {
			t.Errorf("2.2: Put of %d bytes, %.20q: ends in %q", len(s), s, got[max(0, len(got)-4):])
		}
	}
	for _, c := range [][2]string{
		{"", "\x00\x00\x00\x00"},
		{"123456789", "123456789\x26\x39\xf4\xcb"},
		{"\x00", "\x00\x8d\xef\x02\xd2"},
		{"\xff", "\xff\x00\x00\x00\xff"},
	} {
		if got := crc.Put(c[0]); got != c[1] {
			t.Errorf("2.2: Put(%q): %q, want %q", c[0], got, c[1])
		}
	}
}

// 2.2: Get

func TestGetOfPut(t *testing.T) {
	for _, s := range texts() {
		wantText(t, put(s), s)
		wantText(t, put(put(s)), put(s))
		if x, ok := crc.Get(crc.Put(s)); !ok || x != s {
			t.Errorf("2.2: Get of Put of %d bytes: %d bytes, %v", len(s), len(x), ok)
		}
	}
}

func TestGetOfFewerThanFourBytes(t *testing.T) {
	wantNone(t, "")
	for _, b := range []byte(every()) {
		s := string([]byte{b})
		wantNone(t, s)
		wantNone(t, s+s)
		wantNone(t, "\x00"+s)
		wantNone(t, s+s+s)
		wantNone(t, "\x00\x00"+s)
	}
}

func TestGetOfFourBytes(t *testing.T) {
	wantText(t, "\x00\x00\x00\x00", "")
	for at := range 4 {
		for by := 1; by < 256; by++ {
			b := make([]byte, 4)
			b[at] = byte(by)
			wantNone(t, string(b))
		}
	}
	// The sum's bytes without the text that they are of.
	for _, s := range texts() {
		if n := crc32.ChecksumIEEE([]byte(s)); n != 0 {
			wantNone(t, put(s)[len(s):])
		}
	}
}

func TestGetOfTurnedBytes(t *testing.T) {
	for _, s := range []string{"", "\x00", "a", "abc", "123456789", "\x00\x00abc\x00", every()[:60]} {
		p := put(s)
		for i := range len(p) {
			for bit := range 8 {
				b := []byte(p)
				b[i] ^= 1 << bit
				wantNone(t, string(b))
			}
		}
	}
}

func TestGetOfWrongTexts(t *testing.T) {
	for _, s := range []string{"\x00", "a", "abc", "123456789", "\x00\x00abc\x00", every()} {
		p := put(s)
		backward := []byte(p)
		slices.Reverse(backward[len(s):])
		wantNone(t, string(backward))
		wantNone(t, s)
		wantNone(t, s+"\x00\x00\x00\x00")
		wantNone(t, p[len(s):]+s)
		for _, more := range []string{"\x00", "\x00\x00", "\x00\x00\x00\x00", "x"} {
			wantNone(t, more+p)
			wantNone(t, p+more)
		}
		for cut := 1; cut < len(p); cut++ {
			wantNone(t, p[:len(p)-cut])
		}
	}
	// The bits not turned at last, or 0 at first, are not the sum.
	wantNone(t, string(binary.LittleEndian.AppendUint32([]byte("abc"), ^crc32.ChecksumIEEE([]byte("abc")))))
	wantNone(t, "\xff\xff\xff\xff")
	wantNone(t, "\x00\x00\x00\x00\x00")
}

// 2.2 told backward: where Get tells a text, that text's Put is what it was given.
func TestGetTellsOnlyWhatPutMade(t *testing.T) {
	for _, s := range texts() {
		want := len(s) >= 4 && put(s[:len(s)-4]) == s
		x, ok := crc.Get(s)
		if ok != want || ok && put(x) != s || !ok && x != "" {
			t.Errorf("2.2: Get of %d bytes, %.20q: %.20q, %v", len(s), s, x, ok)
		}
	}
}

// R3

func TestTextsAreNewMemory(t *testing.T) {
	s := strings.Repeat("a", 9)
	p := crc.Put(s)
	x, _ := crc.Get(p)
	if unsafe.StringData(p) == unsafe.StringData(s) || unsafe.StringData(x) == unsafe.StringData(p) {
		t.Error("R3: what is told shares memory with what was handed in")
	}
}

// R1: a call hangs on no call ahead of it.
func TestCallsDoNotTouch(t *testing.T) {
	for range 3 {
		for _, s := range []string{"123456789", "", "abc", "\x00"} {
			if crc.Sum(s) != sum(s) || crc.Put(s) != put(s) || crc.Table()[1] != number(1) {
				t.Errorf("R1: calls of %q", s)
			}
			wantText(t, put(s), s)
			wantNone(t, put(s)+"x")
		}
	}
}
