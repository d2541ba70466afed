package codec_test

import (
	"encoding/base64"
	"encoding/hex"
	"math"
	"math/big"
	"slices"
	"strings"
	"testing"
	"unsafe"

	"shelfmark/codec"
)

const (
	by16 = "0123456789abcdef"
	by32 = "0123456789abcdfghijklmnpqrsvwxyz"
	by64 = "ABCDEFGHIJKLMNOPQRSTUVWXYZabcdefghijklmnopqrstuvwxyz0123456789+/"
)

// hex16 is the Hex of s, word by word as 5.1 tells it.
func hex16(s string) string {
	var b []byte
	for _, c := range []byte(s) {
		b = append(b, by16[c/16], by16[c%16])
	}
	return string(b)
}

// base32 is the Base32 of s, word by word as 5.2 tells it: bit k of it is bit k
// modulo 8 of byte k over 8, and what is told is its digits.
func base32(s string) string {
	number := new(big.Int)
	for k := range 8 * len(s) {
		number.SetBit(number, k, uint(s[k/8]>>(k%8)&1))
	}
	out, digit := "", new(big.Int)
	for bits := 0; bits < 8*len(s); bits += 5 {
		number.DivMod(number, big.NewInt(32), digit)
		out = string(by32[digit.Int64()]) + out
	}
	return out
}

// base64s is the Base64 of s, word by word as 5.3 tells it, bit by bit.
func base64s(s string) string {
	var out []byte
	for ; len(s) > 0; s = s[min(3, len(s)):] {
		n, rest := 0, min(3, len(s))
		for i := range 3 {
			n *= 256
			if i < rest {
				n += int(s[i])
			}
		}
		four := []byte{by64[n>>18], by64[n>>12%64], by64[n>>6%64], by64[n%64]}
		out = append(append(out, four[:rest+1]...), "=="[:3-rest]...)
	}
	return string(out)
}

// fold is the Fold of s into n bytes, word by word as 5.4 tells it.
func fold(s string, n int) string {
	var b []byte
	for k := range n {
		x := byte(0)
		for i := k; i < len(s); i += n {
			x ^= s[i]
		}
		b = append(b, x)
	}
	return string(b)
}

// every is n bytes, each other than those beside it, 0 and 255 among them.
func every(n int) string {
	b := make([]byte, n)
	for i := range b {
		b[i] = byte(i*7 + i/256)
	}
	return string(b)
}

// texts are ordinary ones and the edges: nothing, each single byte, each rest
// of groups of three and of five bytes, noughts and 255 alone, ahead and
// behind, 63 to 65 bytes; and texts whose bytes are no runes.
func texts() []string {
	l := []string{
		"", "a", "ab", "abc", "abcd", "123456789", "/nix/store", "=", "A==", "0z",
		"\x00a", "a\x00", "\x00\x00\x00a\x00\x00\x00", "\xff\x00", "\x00\xff", "\x80\x01",
		"\u00e4\u20ac\U0001f4da", "\xe2\x82", "\xc3\x28\r\n", "\xed\xa0\x80", "\xff\xfe",
	}
	for b := range 256 {
		l = append(l, string([]byte{byte(b)}))
	}
	for n := range 90 {
		l = append(l, every(300)[n:n+n], strings.Repeat("\x00", n), strings.Repeat("\xff", n))
		l = append(l, strings.Repeat("\x00", n)+"\x01", "\x80"+strings.Repeat("\x00", n))
	}
	return append(l, every(300), every(1001), every(4096))
}

// long are texts of many bytes, of each rest of three and of five.
func long() []string {
	var l []string
	for n := range 15 {
		l = append(l, every(1<<16+n))
	}
	return l
}

func wantRead(t *testing.T, rule, s, x string, ok bool, want string) {
	t.Helper()
	if !ok || x != want {
		t.Errorf("%s: of %.90q: %.90q, %v, want %.90q", rule, s, x, ok, want)
	}
}

func wantNone(t *testing.T, rule, s, x string, ok bool) {
	t.Helper()
	if ok || x != "" {
		t.Errorf("%s: of %.90q: %.90q, %v, want none", rule, s, x, ok)
	}
}

func noHex(t *testing.T, s string) {
	t.Helper()
	x, ok := codec.GetHex(s)
	wantNone(t, "5.1: GetHex", s, x, ok)
}

func noBase32(t *testing.T, s string, n int) {
	t.Helper()
	x, ok := codec.GetBase32(s, n)
	wantNone(t, "5.2: GetBase32", s, x, ok)
}

func noBase64(t *testing.T, s string) {
	t.Helper()
	x, ok := codec.GetBase64(s)
	wantNone(t, "5.3: GetBase64", s, x, ok)
}

// spoilt is s with each other byte in turn at place i.
func spoilt(s string, i int) []string {
	var l []string
	for b := range 256 {
		if byte(b) != s[i] {
			l = append(l, s[:i]+string([]byte{byte(b)})+s[i+1:])
		}
	}
	return l
}

// 5.1: Hex

func TestHex(t *testing.T) {
	for _, s := range append(texts(), long()...) {
		got := codec.Hex(s)
		if got != hex16(s) || got != hex.EncodeToString([]byte(s)) {
			t.Errorf("5.1: Hex of %d bytes, %.20q: %.40q, want %.40q", len(s), s, got, hex16(s))
		}
	}
	for _, c := range [][2]string{
		{"", ""}, {"\x00", "00"}, {"\xff", "ff"}, {"\x0f", "0f"}, {"\xf0", "f0"}, {"\x1e", "1e"},
		{"\x01\x23\x45\x67\x89\xab\xcd\xef", "0123456789abcdef"}, {"\x00\x00\x01", "000001"},
	} {
		if got := codec.Hex(c[0]); got != c[1] {
			t.Errorf("5.1: Hex(%q): %q, want %q", c[0], got, c[1])
		}
	}
}

func TestGetHex(t *testing.T) {
	for _, s := range append(texts(), long()...) {
		x, ok := codec.GetHex(hex16(s))
		wantRead(t, "5.1: GetHex", hex16(s), x, ok, s)
	}
}

// All texts of up to two bytes: those alone are read that are told of a byte.
func TestGetHexOfTwoLetters(t *testing.T) {
	told := map[string]string{"": ""}
	for b := range 256 {
		s := string([]byte{byte(b)})
		told[hex16(s)] = s
	}
	ask := func(s string) {
		x, ok := codec.GetHex(s)
		want, is := told[s]
		if ok != is || x != want {
			t.Errorf("5.1: GetHex of %q: %q, %v", s, x, ok)
		}
	}
	ask("")
	for a := range 256 {
		ask(string([]byte{byte(a)}))
		for b := range 256 {
			ask(string([]byte{byte(a), byte(b)}))
		}
	}
}

func TestGetHexOfWrongTexts(t *testing.T) {
	for _, s := range []string{
		"0", "f", "000", "abc", "0g", "g0", "AB", "aB", "Ab", "FF", "0x00", "ab ", " ab", "a b",
		"ab\n", "ab\r\n", "\x00\x00", "\xff\xff", "-1", "+1", "0_0", "zz", "\u0660\u0661",
		"ab:cd", "abcdefgh", "00000000000000000000000000000000000000000000000G",
	} {
		noHex(t, s)
	}
	for _, s := range []string{"a", "abc", "\x00\xff\x7f\x80"} {
		h := hex16(s)
		for i := range len(h) {
			noHex(t, h[:i]+h[i+1:])
			noHex(t, h[:i]+"0"+h[i:])
			for _, wrong := range spoilt(h, i) {
				if strings.IndexByte(by16, wrong[i]) < 0 {
					noHex(t, wrong)
				}
			}
		}
		noHex(t, h+"0")
	}
	// A letter that is none behind many that are some, and ahead of them.
	for _, s := range long() {
		noHex(t, hex16(s)+"0g")
		noHex(t, "0g"+hex16(s))
		noHex(t, hex16(s)[1:])
	}
}

// 5.2: Base32

func TestBase32(t *testing.T) {
	for _, s := range texts() {
		if got := codec.Base32(s); got != base32(s) {
			t.Errorf("5.2: Base32 of %d bytes, %.20q: %.40q, want %.40q", len(s), s, got, base32(s))
		}
	}
	for _, c := range [][2]string{
		{"", ""}, {"\x00", "00"}, {"\x01", "01"}, {"\x1f", "0z"}, {"\x20", "10"}, {"\xff", "7z"},
		{"\x00\x01", "0080"}, {"\x01\x00", "0001"}, {"\x00\x80", "1000"}, {"\xff\xff", "1zzz"},
		{"\x00\x00\x00\x00\x80", "h0000000"}, {"\xff\xff\xff\xff\xff", "zzzzzzzz"},
		{strings.Repeat("\x00", 20), strings.Repeat("0", 32)},
		{strings.Repeat("\xff", 20), strings.Repeat("z", 32)},
		{strings.Repeat("\xff", 32), "1" + strings.Repeat("z", 51)},
	} {
		if got := codec.Base32(c[0]); got != c[1] {
			t.Errorf("5.2: Base32(%q): %q, want %q", c[0], got, c[1])
		}
	}
}

// What SHA-256 tells of nothing, as it is known by 32 letters.
func TestBase32OfAKnownHash(t *testing.T) {
	s, _ := hex.DecodeString("e3b0c44298fc1c149afbf4c8996fb92427ae41e4649b934ca495991b7852b855")
	want := "0mdqa9w1p6cmli6976v4wi0sw9r4p5prkj7lzfd1877wk11c9c73"
	if got := codec.Base32(string(s)); got != want {
		t.Errorf("5.2: Base32 of a hash: %q, want %q", got, want)
	}
	x, ok := codec.GetBase32(want, 32)
	wantRead(t, "5.2: GetBase32", want, x, ok, string(s))
}

func TestBase32OfManyBytes(t *testing.T) {
	for _, s := range long() {
		got, number := codec.Base32(s), new(big.Int)
		b := []byte(s)
		slices.Reverse(b)
		number.SetBytes(b)
		// By 32 digits of the other letters, which lack the noughts ahead.
		want := strings.Map(func(r rune) rune {
			return rune(by32[strings.IndexRune("0123456789abcdefghijklmnopqrstuv", r)])
		}, number.Text(32))
		if len(got) != (8*len(s)+4)/5 || got != strings.Repeat("0", max(0, len(got)-len(want)))+want {
			t.Errorf("5.2: Base32 of %d bytes: %d letters, %.40q", len(s), len(got), got)
		}
	}
}

// Each bit alone is one bit of one letter.
func TestBase32OfOneBit(t *testing.T) {
	for n := 1; n <= 20; n++ {
		for k := range 8 * n {
			b := make([]byte, n)
			b[k/8] = 1 << (k % 8)
			want := []byte(strings.Repeat("0", (8*n+4)/5))
			want[len(want)-1-k/5] = by32[1<<(k%5)]
			if got := codec.Base32(string(b)); got != string(want) {
				t.Errorf("5.2: Base32 of bit %d of %d bytes: %q, want %q", k, n, got, want)
			}
		}
	}
}

func TestGetBase32(t *testing.T) {
	for _, s := range texts() {
		l := base32(s)
		x, ok := codec.GetBase32(l, len(s))
		if len(s) > 64 {
			wantNone(t, "5.2: GetBase32", l, x, ok)
			continue
		}
		wantRead(t, "5.2: GetBase32", l, x, ok, s)
		for n := -3; n <= 68; n++ {
			if n != len(s) {
				noBase32(t, l, n)
			}
		}
	}
}

func TestGetBase32OfOtherNumbers(t *testing.T) {
	for _, n := range []int{
		-1, -2, -8, -64, 65, 66, 128, 256, 1 << 16, 1<<31 - 1, 1 << 31, 1 << 32, 1<<32 + 1, -1 << 31,
		math.MaxInt, math.MaxInt - 1, math.MaxInt / 8, math.MaxInt/8 + 1, math.MinInt, math.MinInt + 1,
	} {
		for _, s := range []string{"", "0", "00", "01", "zz", strings.Repeat("0", 104), base32(every(65))} {
			noBase32(t, s, n)
		}
	}
	for _, n := range []int{0, 1, 63, 64} {
		s := strings.Repeat("\xff", n)
		x, ok := codec.GetBase32(base32(s), n)
		wantRead(t, "5.2: GetBase32", base32(s), x, ok, s)
	}
	noBase32(t, base32(every(65)), 65)
	noBase32(t, base32(every(65)), 64)
}

// All texts of up to two bytes, read as no byte and as one.
func TestGetBase32OfTwoLetters(t *testing.T) {
	told := map[string]string{}
	for b := range 256 {
		s := string([]byte{byte(b)})
		told[base32(s)] = s
	}
	ask := func(s string) {
		x, ok := codec.GetBase32(s, 1)
		want, is := told[s]
		if ok != is || x != want {
			t.Errorf("5.2: GetBase32 of %q into a byte: %q, %v", s, x, ok)
		}
		if s != "" {
			noBase32(t, s, 0)
		}
	}
	ask("")
	for a := range 256 {
		ask(string([]byte{byte(a)}))
		for b := range 256 {
			ask(string([]byte{byte(a), byte(b)}))
		}
	}
}

// The first letter may hold no bits but those of the bytes.
func TestGetBase32OfBitsLeftOver(t *testing.T) {
	for n := 1; n <= 64; n++ {
		m := (8*n + 4) / 5
		may := 1 << (8*n - 5*(m-1))
		for i := range 32 {
			s := by32[i:i+1] + strings.Repeat("z", m-1)
			x, ok := codec.GetBase32(s, n)
			if i >= may {
				wantNone(t, "5.2: GetBase32", s, x, ok)
			} else if !ok || len(x) != n || base32(x) != s {
				t.Errorf("5.2: GetBase32 of %q: %q, %v", s, x, ok)
			}
		}
	}
}

func TestGetBase32OfWrongLetters(t *testing.T) {
	for _, s := range []string{"a", "ab", "abc", "abcd", "abcde", every(20)} {
		l := base32(s)
		for i := range len(l) {
			for _, wrong := range spoilt(l, i) {
				if strings.IndexByte(by32, wrong[i]) < 0 {
					noBase32(t, wrong, len(s))
				}
			}
		}
	}
	for _, c := range []byte("eotuABZ=+/-_ \n\x00\xff") {
		noBase32(t, string([]byte{c, '0'}), 1)
		noBase32(t, string([]byte{'0', c}), 1)
		noBase32(t, strings.Repeat(string([]byte{c}), 32), 20)
	}
	noBase32(t, strings.ToUpper(base32(every(20))), 20)
}

func TestGetBase32OfWrongLengths(t *testing.T) {
	for n := range 65 {
		for _, s := range []string{strings.Repeat("\x00", n), every(300)[200-n : 200]} {
			l := base32(s)
			for _, more := range []string{"0", "00", "00000000", "z", "e", "\x00", "="} {
				noBase32(t, l+more, n)
				noBase32(t, more+l, n)
			}
			for cut := 1; cut <= len(l); cut++ {
				noBase32(t, l[cut:], n)
				noBase32(t, l[:len(l)-cut], n)
			}
		}
	}
	noBase32(t, strings.Repeat("0", 1<<22), 64)
	noBase32(t, strings.Repeat("0", 1<<22), 0)
}

// 5.3: Base64

func TestBase64(t *testing.T) {
	for _, s := range append(texts(), long()...) {
		got, want := codec.Base64(s), base64.StdEncoding.EncodeToString([]byte(s))
		if got != want || got != base64s(s) {
			t.Errorf("5.3: Base64 of %d bytes, %.20q: %.40q, want %.40q", len(s), s, got, want)
		}
	}
	for _, c := range [][2]string{
		{"", ""}, {"f", "Zg=="}, {"fo", "Zm8="}, {"foo", "Zm9v"}, {"foob", "Zm9vYg=="},
		{"fooba", "Zm9vYmE="}, {"foobar", "Zm9vYmFy"}, {"\x00", "AA=="}, {"\x00\x00", "AAA="},
		{"\x00\x00\x00", "AAAA"}, {"\xff", "/w=="}, {"\xff\xff", "//8="}, {"\xff\xff\xff", "////"},
		{"\xfb\xef\xbe", "++++"}, {"\x00\x10\x83\x10\x51\x87\x20\x92\x8b", "ABCDEFGHIJKL"},
	} {
		if got := codec.Base64(c[0]); got != c[1] {
			t.Errorf("5.3: Base64(%q): %q, want %q", c[0], got, c[1])
		}
	}
}

func TestGetBase64(t *testing.T) {
	for _, s := range append(texts(), long()...) {
		l := base64.StdEncoding.EncodeToString([]byte(s))
		x, ok := codec.GetBase64(l)
		wantRead(t, "5.3: GetBase64", l, x, ok, s)
	}
}

// wantBase64 asks whether those texts alone are read that are told of bytes. The
// library's reader passes over line ends, so what it read is told again.
func wantBase64(t *testing.T, s string) {
	t.Helper()
	b, err := base64.StdEncoding.Strict().DecodeString(s)
	is := err == nil && base64s(string(b)) == s
	x, ok := codec.GetBase64(s)
	if ok != is || is && x != string(b) || !is && x != "" {
		t.Errorf("5.3: GetBase64 of %q: %q, %v, want %v", s, x, ok, is)
	}
}

// All texts of up to five bytes of a few kinds: letters that leave bits over
// and such as leave none, `=`, and ones that are none.
func TestGetBase64OfFewLetters(t *testing.T) {
	kinds := []byte("ABEQgw/=-\n\x00")
	last := []string{""}
	for range 5 {
		var next []string
		for _, s := range last {
			for _, c := range kinds {
				next = append(next, s+string([]byte{c}))
			}
		}
		for _, s := range last {
			wantBase64(t, s)
		}
		last = next
	}
	for _, s := range last {
		noBase64(t, s)
	}
}

// The last letter may hold no bits but those of the bytes.
func TestGetBase64OfBitsLeftOver(t *testing.T) {
	for i := range 64 {
		c := by64[i : i+1]
		for _, ahead := range []string{"", "abcd", "////"} {
			one, two := ahead+"/"+c+"==", ahead+"//"+c+"="
			wantBase64(t, one)
			wantBase64(t, two)
			if i%16 != 0 {
				noBase64(t, one)
			}
			if i%4 != 0 {
				noBase64(t, two)
			}
		}
	}
}

func TestGetBase64OfWrongTexts(t *testing.T) {
	for _, s := range []string{
		"A", "AA", "AAA", "AA=", "AAA==", "AA===", "A=", "A==", "A===", "=", "==", "===", "====",
		"=AAA", "A=AA", "AA=A", "=A==", "==AA", "AAAA=", "AAAA==", "AAAA====", "AA==AA==", "AAA=AAAA",
		"AAAAA", "AAAAAA", "AAAAAAA", "AAAAA===", "Zg", "Zm8", "Z g=", "Zg== ", " Zg==", "Zg==\n",
		"Zg=\n=", "Zm9v\n", "Zm9v\r\n", "Zm\n9v", "-_-_", "Zm9-", "Zm9_", "Zm9.", "\x00\x00\x00\x00",
		"\xff\xff\xff\xff", "\u00e4\u00e4", "Zh==", "Zm9=", "/x==", "//9=", strings.Repeat("=", 1<<20),
	} {
		noBase64(t, s)
		noBase64(t, "AAAA"+s)
	}
	for _, s := range []string{"a", "ab", "abc", "abcd", "\xff\xff\xff\xff\xff"} {
		l := base64s(s)
		for i := range len(l) {
			noBase64(t, l[:i]+l[i+1:])
			for _, wrong := range spoilt(l, i) {
				wantBase64(t, wrong)
			}
		}
	}
	for _, s := range long() {
		noBase64(t, "A-AA"+base64s(s))
		noBase64(t, "AA=="+base64s(s))
		noBase64(t, base64s(s)+"A-AA")
	}
}

// 5.4: Fold

func TestFold(t *testing.T) {
	for _, s := range append(texts(), long()...) {
		for n := 1; n <= 64; n++ {
			if got := codec.Fold(s, n); got != fold(s, n) {
				t.Errorf("5.4: Fold of %d bytes, %.20q, into %d: %q, want %q", len(s), s, n, got, fold(s, n))
			}
		}
	}
	for _, c := range []struct {
		s    string
		n    int
		want string
	}{
		{"", 1, "\x00"}, {"", 64, strings.Repeat("\x00", 64)}, {"a", 1, "a"}, {"aa", 1, "\x00"},
		{"aaa", 1, "a"}, {"ab", 1, "\x03"}, {"ab", 2, "ab"}, {"abc", 2, "\x02b"}, {"abc", 5, "abc\x00\x00"},
		{"\x01\x02\x04\x08\x10", 2, "\x15\x0a"}, {"\xff\x00\xff\xff", 2, "\x00\xff"},
		{every(64), 64, every(64)}, {every(63), 64, every(63) + "\x00"},
		{strings.Repeat("a", 64) + "a", 64, "\x00" + strings.Repeat("a", 63)},
	} {
		if got := codec.Fold(c.s, c.n); got != c.want {
			t.Errorf("5.4: Fold(%q, %d): %q, want %q", c.s, c.n, got, c.want)
		}
	}
}

func TestFoldIntoOtherNumbers(t *testing.T) {
	for _, n := range []int{
		0, -1, -2, -64, 65, 66, 128, 1 << 16, 1<<31 - 1, 1 << 32, 1<<32 + 1, -1 << 31,
		math.MaxInt, math.MinInt,
	} {
		for _, s := range []string{"", "a", "abc", every(64), every(65), every(1000)} {
			if got := codec.Fold(s, n); got != "" {
				t.Errorf("5.4: Fold of %d bytes into %d: %q", len(s), n, got)
			}
		}
	}
}

// 5.5

func TestToldAsLettersIsToldAgain(t *testing.T) {
	for _, s := range append(texts(), long()...) {
		x, ok := codec.GetHex(codec.Hex(s))
		wantRead(t, "5.5: GetHex of Hex", s, x, ok, s)
		x, ok = codec.GetBase64(codec.Base64(s))
		wantRead(t, "5.5: GetBase64 of Base64", s, x, ok, s)
		if len(s) <= 64 {
			x, ok = codec.GetBase32(codec.Base32(s), len(s))
			wantRead(t, "5.5: GetBase32 of Base32", s, x, ok, s)
		}
	}
}

// Letters that are read are those that are told of what was read.
func TestReadIsToldAgain(t *testing.T) {
	all := texts()
	for _, s := range texts() {
		all = append(all, hex16(s), base32(s), base64s(s))
	}
	for _, s := range all {
		if x, ok := codec.GetHex(s); ok && codec.Hex(x) != s {
			t.Errorf("5.1: GetHex of %.40q: %.40q", s, x)
		}
		if x, ok := codec.GetBase64(s); ok && codec.Base64(x) != s {
			t.Errorf("5.3: GetBase64 of %.40q: %.40q", s, x)
		}
		for n := range 65 {
			if x, ok := codec.GetBase32(s, n); ok && (codec.Base32(x) != s || len(x) != n) {
				t.Errorf("5.2: GetBase32 of %.40q into %d: %.40q", s, n, x)
			}
		}
	}
}

// R3

// calls are all calls, those that take a number with one.
func calls() map[string]func(string) string {
	return map[string]func(string) string{
		"Hex": codec.Hex, "Base32": codec.Base32, "Base64": codec.Base64,
		"GetHex":    func(s string) string { x, _ := codec.GetHex(s); return x },
		"GetBase32": func(s string) string { x, _ := codec.GetBase32(s, 20); return x },
		"GetBase64": func(s string) string { x, _ := codec.GetBase64(s); return x },
		"Fold":      func(s string) string { return codec.Fold(s, 32) },
	}
}

// A text that each of the readers reads.
func TestNothingIsChangedOrKept(t *testing.T) {
	for name, call := range calls() {
		s := strings.Repeat("1a2b3c4d", 4)
		b := []byte(s)
		told := call(unsafe.String(&b[0], len(b)))
		if string(b) != s {
			t.Errorf("R3: what was handed to %s changed", name)
		}
		want := strings.Clone(told)
		for i := range b {
			b[i] ^= 0x55
		}
		if told != want || told == "" || call(s) != want {
			t.Errorf("R3: what %s told changed, or was nothing: %q", name, told)
		}
	}
}

// R1, R5: a call hangs on no call ahead of it.
func TestCallsDoNotTouch(t *testing.T) {
	for range 3 {
		for _, s := range []string{"abc", "", every(64), "\x00", every(19)} {
			if codec.Hex(s) != hex16(s) || codec.Base32(s) != base32(s) || codec.Base64(s) != base64s(s) {
				t.Errorf("R1: letters of %q", s)
			}
			if codec.Fold(s, 7) != fold(s, 7) || codec.Fold(s, 0) != "" {
				t.Errorf("R1: Fold of %q", s)
			}
			noHex(t, hex16(s)+"0")
			noBase32(t, base32(s)+"0", len(s))
			noBase64(t, base64s(s)+"=")
		}
	}
}
