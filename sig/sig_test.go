package sig_test

import (
	"crypto/ed25519"
	"crypto/sha512"
	"encoding/base64"
	"encoding/hex"
	"fmt"
	"math/big"
	"slices"
	"strings"
	"testing"
	"unsafe"

	"shelfmark/api"
	"shelfmark/point"
	"shelfmark/sig"
)

// power is 2^n.
func power(n uint) *big.Int { return new(big.Int).Lsh(big.NewInt(1), n) }

func plus(x *big.Int, n int64) *big.Int { return new(big.Int).Add(x, big.NewInt(n)) }

// prime is as chapter 6 tells it, order as chapter 7 does.
func prime() *big.Int { return plus(power(255), -19) }

func order() *big.Int {
	x, _ := new(big.Int).SetString("27742317777372353535851937790883648493", 10)
	return x.Add(x, power(252))
}

// raw is the 32 bytes of x, the lowest first.
func raw(x *big.Int) string {
	b := x.FillBytes(make([]byte, 32))
	slices.Reverse(b)
	return string(b)
}

// read is the number of the bytes of s, the lowest first.
func read(s string) *big.Int {
	b := []byte(s)
	slices.Reverse(b)
	return new(big.Int).SetBytes(b)
}

// num is x, if it has at most 256 bits.
func num(x *big.Int) api.Num {
	var a api.Num
	for i, c := range []byte(raw(x)) {
		a[i/8] |= uint64(c) << (i % 8 * 8)
	}
	return a
}

// times is Bytes of Mul of n and Base.
func times(n *big.Int) string { return point.Bytes(point.Mul(num(n), point.Base())) }

// hashed is the number that 9.1 and 9.2 make of texts.
func hashed(texts ...string) *big.Int {
	h := sha512.Sum512([]byte(strings.Join(texts, "")))
	return new(big.Int).Mod(read(string(h[:])), order())
}

// secret is a of 9.1, word by word as it is told there.
func secret(seed string) *big.Int {
	h := sha512.Sum512([]byte(seed))
	a := read(string(h[:32]))
	for _, bit := range []int{0, 1, 2, 255} {
		a.SetBit(a, bit, 0)
	}
	return a.SetBit(a, 254, 1)
}

func unhex(s string) string {
	b, err := hex.DecodeString(s)
	if err != nil {
		panic(err)
	}
	return string(b)
}

// some is n bytes without a rule that is to be seen, others for each k.
func some(k, n int) string {
	b := make([]byte, n)
	x := uint64(k)*0x9e3779b97f4a7c15 + 1
	for i := range b {
		x = x*6364136223846793005 + 1442695040888963407
		b[i] = byte(x >> 40)
	}
	return string(b)
}

// seeds are ordinary ones and those of one byte alone.
func seeds(n int) []string {
	l := []string{
		strings.Repeat("\x00", 32), strings.Repeat("\xff", 32), strings.Repeat("s", 32),
		"\x01" + strings.Repeat("\x00", 31), strings.Repeat("\x00", 31) + "\x80", strings.Repeat("\u00e4", 16),
	}
	for k := range n {
		l = append(l, some(k, 32))
	}
	return l
}

func libraryKey(seed string) ed25519.PrivateKey { return ed25519.NewKeyFromSeed([]byte(seed)) }

func libraryPublic(seed string) string {
	return string(libraryKey(seed).Public().(ed25519.PublicKey))
}

func librarySign(seed, msg string) string {
	return string(ed25519.Sign(libraryKey(seed), []byte(msg)))
}

func libraryVerify(pub, msg, s string) bool {
	return ed25519.Verify(ed25519.PublicKey(pub), []byte(msg), []byte(s))
}

func wantPublic(t *testing.T, seed, want string) {
	t.Helper()
	if got, ok := sig.Public(seed); !ok || got != want {
		t.Errorf("9.1: Public(%q): %q, %v, want %q", seed, got, ok, want)
	}
}

func wantSign(t *testing.T, seed, msg, want string) {
	t.Helper()
	if got, ok := sig.Sign(seed, msg); !ok || got != want {
		t.Errorf("9.1: Sign(%q, %d bytes, %.40q): %q, %v, want %q", seed, len(msg), msg, got, ok, want)
	}
}

func wantNoSeed(t *testing.T, seed string) {
	t.Helper()
	if got, ok := sig.Public(seed); ok || got != "" {
		t.Errorf("9.1: Public of a seed of %d bytes: %q, %v", len(seed), got, ok)
	}
	for _, msg := range []string{"", "m", seed} {
		if got, ok := sig.Sign(seed, msg); ok || got != "" {
			t.Errorf("9.1: Sign by a seed of %d bytes: %q, %v", len(seed), got, ok)
		}
	}
}

func wantVerify(t *testing.T, rule, pub, msg, s string, want bool) {
	t.Helper()
	if got := sig.Verify(pub, msg, s); got != want {
		t.Errorf("%s: Verify(%q, %d bytes, %.40q, %q): %v, want %v", rule, pub, len(msg), msg, s, got, want)
	}
}

// spoilt is s with place i otherwise, in some ways.
func spoilt(s string, i int) []string {
	var l []string
	for _, turn := range []byte{1, 2, 8, 16, 32, 64, 128, 255} {
		l = append(l, s[:i]+string([]byte{s[i] ^ turn})+s[i+1:])
	}
	return l
}

// 9.1

// Signatures that all know.
func TestKnownSignatures(t *testing.T) {
	for _, c := range [][4]string{
		{
			"9d61b19deffd5a60ba844af492ec2cc44449c5697b326919703bac031cae7f60",
			"d75a980182b10ab7d54bfed3c964073a0ee172f3daa62325af021a68f707511a",
			"",
			"e5564300c360ac729086e2cc806e828a84877f1eb8e5d974d873e065224901555fb8821590a33bacc61e39701cf9b46bd25bf5f0595bbe24655141438e7a100b",
		},
		{
			"4ccd089b28ff96da9db6c346ec114e0f5b8a319f35aba624da8cf6ed4fb8a6fb",
			"3d4017c3e843895a92b70aa74d1b7ebc9c982ccf2ec4968cc0cd55f12af4660c",
			"72",
			"92a009a9f0d4cab8720e820b5f642540a2b27b5416503f8fb3762223ebdb69da085ac1e43e15996e458f3613d0f11d8c387b2eaeb4302aeeb00d291612bb0c00",
		},
		{
			"c5aa8df43f9f837bedb7442f31dcb7b166d38535076f094b85ce3a2e0b4458f7",
			"fc51cd8e6218a1a38da47ed00230f0580816ed13ba3303ac5deb911548908025",
			"af82",
			"6291d657deec24024827e69c3abe01a30ce548a284743a445e3680d7db5ac3ac18ff9b538d16f290ae67f760984dc6594a7c15e9716ed28dc027beceea1ec40a",
		},
	} {
		wantPublic(t, unhex(c[0]), unhex(c[1]))
		wantSign(t, unhex(c[0]), unhex(c[2]), unhex(c[3]))
		wantVerify(t, "9.2", unhex(c[1]), unhex(c[2]), unhex(c[3]), true)
	}
}

func TestPublic(t *testing.T) {
	for _, seed := range seeds(40) {
		wantPublic(t, seed, libraryPublic(seed))
		wantPublic(t, seed, times(secret(seed)))
	}
}

// What 9.1 tells, word by word, is what is signed.
func TestSign(t *testing.T) {
	for k, seed := range seeds(12) {
		msg := some(1000+k, 7*k)
		h := sha512.Sum512([]byte(seed))
		a, r := secret(seed), hashed(string(h[32:]), msg)
		n := new(big.Int).Mul(hashed(times(r), times(a), msg), a)
		n.Mod(n.Add(n, r), order())
		wantSign(t, seed, msg, times(r)+raw(n))
	}
}

// Messages of each length up to beyond two blocks of what is hashed, R, Public
// and what is of the seed standing ahead of them.
func TestSignOfEachLength(t *testing.T) {
	seed, long := some(3, 32), some(4, 300)
	for n := range 300 {
		wantSign(t, seed, long[:n], librarySign(seed, long[:n]))
	}
}

func TestSignOfMessages(t *testing.T) {
	for i, msg := range []string{
		"", "m", "\x00", "\xff", "1;/nix/store/", "\u00e4\u20ac", "\xc3\x28\r\n", strings.Repeat("\x00", 64), strings.Repeat("\xff", 128),
		some(7, 1<<10), some(8, 1023), some(9, 1<<16), some(10, 1<<20+1),
	} {
		for _, seed := range []string{some(100+i, 32), strings.Repeat("\x00", 32)} {
			wantSign(t, seed, msg, librarySign(seed, msg))
			wantVerify(t, "9.4", libraryPublic(seed), msg, librarySign(seed, msg), true)
		}
	}
}

func TestSeedsOfOtherLengths(t *testing.T) {
	for n := range 150 {
		if n != 32 {
			wantNoSeed(t, strings.Repeat("s", n))
			wantNoSeed(t, strings.Repeat("\x00", n))
		}
	}
	seed := some(1, 32)
	for _, s := range []string{
		seed[:31], seed[1:], seed + "\x00", "\x00" + seed, seed + seed, strings.Repeat("\u00e4", 32), some(2, 1<<20),
		hex.EncodeToString([]byte(seed)),
	} {
		wantNoSeed(t, s)
	}
}

// 9.2

func TestExample(t *testing.T) {
	wantVerify(t, "9", "", "", "", false)
}

func TestVerify(t *testing.T) {
	for k, seed := range seeds(12) {
		msg := some(2000+k, 11*k)
		wantVerify(t, "9.2", libraryPublic(seed), msg, librarySign(seed, msg), true)
	}
}

// A signature, a message and a key with each of their bytes turned.
func TestVerifyOfTurnedBytes(t *testing.T) {
	seed, msg := some(5, 32), some(6, 20)
	pub, s := libraryPublic(seed), librarySign(seed, msg)
	wantVerify(t, "9.2", pub, msg, s, true)
	for i := range s {
		for _, wrong := range spoilt(s, i) {
			wantVerify(t, "9.2: a signature's byte", pub, msg, wrong, false)
		}
	}
	for i := range msg {
		for _, wrong := range spoilt(msg, i) {
			wantVerify(t, "9.2: a message's byte", pub, wrong, s, false)
		}
	}
	for i := range pub {
		for _, wrong := range spoilt(pub, i) {
			wantVerify(t, "9.2: a key's byte", wrong, msg, s, false)
		}
	}
}

func TestVerifyOfOthers(t *testing.T) {
	seed, other, msg := some(5, 32), some(55, 32), some(6, 20)
	pub, s := libraryPublic(seed), librarySign(seed, msg)
	more := librarySign(other, msg)
	for _, c := range [][3]string{
		{libraryPublic(other), msg, s}, {pub, msg, more}, {s[:32], msg, s}, {s[32:], msg, s}, {seed, msg, s},
		{pub, msg + "\x00", s}, {pub, "\x00" + msg, s}, {pub, msg[1:], s}, {pub, msg[:19], s}, {pub, "", s}, {pub, msg + msg, s},
		{pub, s, msg}, {msg, pub, s}, {pub, msg, pub + pub}, {pub, msg, s[32:] + s[:32]},
		{pub, msg, s[:32] + more[32:]}, {pub, msg, more[:32] + s[32:]}, {pub, msg, librarySign(seed, msg[1:])},
		{pub, pub + msg, s}, {"", pub + msg, s}, {pub, s[:32] + pub + msg, s},
		{pub, msg, pub + s[32:]}, {pub, msg, strings.Repeat("\x00", 64)}, {pub, msg, strings.Repeat("\xff", 64)},
	} {
		wantVerify(t, "9.2: others", c[0], c[1], c[2], false)
	}
}

func TestVerifyOfOtherLengths(t *testing.T) {
	seed, msg := some(5, 32), some(6, 20)
	pub, s := libraryPublic(seed), librarySign(seed, msg)
	long := strings.Repeat("\x00", 1<<16)
	for n := range 200 {
		if n != 64 {
			wantVerify(t, "9.2: a signature's length", pub, msg, (s + s + s + s)[:n], false)
			wantVerify(t, "9.2: a signature's length", pub, msg, (s + long)[:n], false)
		}
		if n != 32 {
			wantVerify(t, "9.2: a key's length", strings.Repeat(pub, 7)[:n], msg, s, false)
			wantVerify(t, "9.2: a key's length", (pub + long)[:n], msg, s, false)
		}
	}
	for _, wrong := range []string{s[1:], "\x00" + s, s + "\x00", s[:32], s[32:], s[:32] + "\x00" + s[32:], s + long, s[:32] + s[33:]} {
		wantVerify(t, "9.2: a signature's length", pub, msg, wrong, false)
	}
	for _, wrong := range []string{pub[1:], "\x00" + pub, pub + "\x00", pub + pub, pub + long, ""} {
		wantVerify(t, "9.2: a key's length", wrong, msg, s, false)
	}
}

// S with the order added as often as it yet has 32 bytes.
func TestVerifyOfSFromTheOrderOn(t *testing.T) {
	for k := range 4 {
		seed, msg := some(60+k, 32), some(70+k, k)
		pub, s := libraryPublic(seed), librarySign(seed, msg)
		n, tried := read(s[32:]), 0
		for n.Add(n, order()); n.BitLen() <= 256; n.Add(n, order()) {
			wantVerify(t, "9.2: S from the order on", pub, msg, s[:32]+raw(n), false)
			tried++
		}
		if tried < 14 {
			t.Error("the test's own:", tried)
		}
	}
}

func nought() string { return "\x01" + strings.Repeat("\x00", 31) }

// halfway is the point (0, -1), which twice is (0, 1).
func halfway() string { return "\xec" + strings.Repeat("\xff", 30) + "\x7f" }

// eighths are the points that eight times are (0, 1).
func eighths(t *testing.T) []string {
	t.Helper()
	from := unhex("26e8958fc2b227b045c3f489f2ef98f0d5dfac05d3c63339b13802886d53fc05")
	p, ok := point.From(from)
	if !ok {
		t.Fatal("the test's own")
	}
	var l []string
	for k := range uint64(8) {
		l = append(l, point.Bytes(point.Mul(api.Num{k}, p)))
	}
	if l[0] != nought() || l[4] != halfway() || point.Bytes(point.Mul(api.Num{8}, p)) != nought() {
		t.Fatal("the test's own:", l)
	}
	return l
}

// By a key of which few times is (0, 1) some messages verify: nothing is
// multiplied by eight ahead of it.
func TestVerifyByPointsOfFew(t *testing.T) {
	yes, no := 0, 0
	for i, pub := range eighths(t) {
		for k := range 12 {
			msg, n := some(80+k, 5), big.NewInt(int64(k*k))
			s := times(n) + raw(n)
			want := int(new(big.Int).Mod(hashed(s[:32], pub, msg), big.NewInt(8)).Int64())*i%8 == 0
			if want != libraryVerify(pub, msg, s) {
				t.Fatal("the test's own:", i, k)
			}
			wantVerify(t, "9.2: a point of few", pub, msg, s, want)
			if want {
				yes++
			} else {
				no++
			}
		}
	}
	if yes < 12 || no < 12 {
		t.Error("the test's own:", yes, no)
	}
}

// A key that is a point of few beside a seed's point.
func TestVerifyByPointsOfFewAndASeed(t *testing.T) {
	seed := some(90, 32)
	own, _ := point.From(libraryPublic(seed))
	yes, no := 0, 0
	for i, few := range eighths(t) {
		p, _ := point.From(few)
		pub := point.Bytes(point.Add(own, p))
		for k := range 8 {
			msg, r := some(91+k, 9), hashed(some(k, 3))
			head := times(r)
			n := new(big.Int).Mul(hashed(head, pub, msg), secret(seed))
			s := head + raw(n.Mod(n.Add(n, r), order()))
			want := libraryVerify(pub, msg, s)
			wantVerify(t, "9.2: a point of few beside another", pub, msg, s, want)
			if i == 0 && !want {
				t.Fatal("the test's own:", k)
			}
			if want {
				yes++
			} else {
				no++
			}
		}
	}
	if yes < 8 || no < 8 {
		t.Error("the test's own:", yes, no)
	}
}

// Keys that are bytes of no point, beside signatures that verify by the point
// which others read there.
func TestVerifyByKeysOfNoPoint(t *testing.T) {
	others := 0
	for n := range int64(19) {
		for _, pub := range []string{raw(plus(prime(), n)), raw(plus(new(big.Int).Add(prime(), power(255)), n))} {
			for k := range 8 {
				msg, n := some(k, 4), big.NewInt(int64(k))
				s := times(n) + raw(n)
				if libraryVerify(pub, msg, s) {
					others++
				}
				wantVerify(t, "9.2: Y from the prime on", pub, msg, s, false)
			}
		}
	}
	if others < 8 {
		t.Error("the test's own:", others)
	}
	zeros := strings.Repeat("\x00", 30)
	for _, pub := range []string{
		// An X of 0 is not odd.
		"\x01" + zeros + "\x80", "\xec" + strings.Repeat("\xff", 31),
		// To these Y there is no X.
		"\x02" + zeros + "\x00", "\x02" + zeros + "\x80", "\x07" + zeros + "\x00", strings.Repeat("\xff", 32),
	} {
		for k := range 8 {
			n := big.NewInt(int64(k))
			wantVerify(t, "9.2: bytes of no point", pub, some(k, 4), times(n)+raw(n), false)
		}
	}
}

// R that is bytes of no point, though the point that comes is what others would
// read there.
func TestVerifyOfRThatIsNoPoint(t *testing.T) {
	zeros := strings.Repeat("\x00", 32)
	wantVerify(t, "9.2", nought(), "m", nought()+zeros, true)
	for _, head := range []string{
		raw(plus(prime(), 1)), raw(plus(new(big.Int).Add(prime(), power(255)), 1)),
		"\x01" + zeros[:30] + "\x80", zeros, "\x02" + zeros[1:], strings.Repeat("\xff", 32),
	} {
		wantVerify(t, "9.2: R of no point", nought(), "m", head+zeros, false)
	}
	seed, msg := some(5, 32), some(6, 20)
	pub, s := libraryPublic(seed), librarySign(seed, msg)
	for _, head := range []string{"\x02" + zeros[1:], "\xee" + strings.Repeat("\xff", 30) + "\x7f", strings.Repeat("\xff", 32)} {
		wantVerify(t, "9.2: R of no point", pub, msg, head+s[32:], false)
	}
	// A message whose k goes with such an R, as if it were (0, 1): S is k a.
	head := raw(plus(prime(), 1))
	n := new(big.Int).Mul(hashed(head, pub, msg), secret(seed))
	wantVerify(t, "9.2: R of no point", pub, msg, head+raw(n.Mod(n, order())), false)
	head = nought()
	n = new(big.Int).Mul(hashed(head, pub, msg), secret(seed))
	wantVerify(t, "9.2: R is (0, 1)", pub, msg, head+raw(n.Mod(n, order())), true)
}

// S may be any number below the order, the edges among them.
func TestVerifyOfEdgesOfS(t *testing.T) {
	for _, n := range []*big.Int{
		big.NewInt(0), big.NewInt(1), big.NewInt(2), plus(order(), -1), plus(order(), -2), power(252), plus(power(252), -1),
	} {
		wantVerify(t, "9.2: S", nought(), "m", times(n)+raw(n), true)
		if n.Sign() > 0 {
			wantVerify(t, "9.2: S", nought(), "m", times(n)+raw(plus(n, -1)), false)
		}
	}
	for n := int64(0); n < 15; n++ {
		x := new(big.Int).Mul(order(), big.NewInt(n))
		wantVerify(t, "9.2: S of the order", nought(), "m", nought()+raw(x), n == 0)
	}
}

// 9.3

// signs are those that may be in a name.
const signs = "ABCDEFGHIJKLMNOPQRSTUVWXYZabcdefghijklmnopqrstuvwxyz0123456789-._"

// may is as 9.3 tells it.
func may(name string) bool {
	for i := range len(name) {
		if strings.IndexByte(signs, name[i]) < 0 {
			return false
		}
	}
	return 1 <= len(name) && len(name) <= 64
}

// text is as 9.3 tells it.
func text(name, s string) string {
	if !may(name) || len(s) != 64 {
		return ""
	}
	return name + ":" + base64.StdEncoding.EncodeToString([]byte(s))
}

// names are some that may be and some that may not.
func names() []string {
	l := []string{
		"a", "cache.nixos.org-1", "A_z.9-", "-", ".", "_", "..", "0", "9", "Z", "z", "k-1", signs[:64], signs[1:], "m_._-",
		"", " ", "a b", " a", "a ", "a\n", "\na", "a:b", ":", "a/", "/", "a+b", "a=", "a,b", "a\x00", "\x00", "\x7f", "~", "a@b",
		"\xe4", "\u00e4", "a\u00e4", "\u0660", "\uff21", "\u212a", "\xff", "[", "`", "{", "@", "a\\", signs,
	}
	for n := 1; n <= 70; n++ {
		l = append(l, strings.Repeat("n", n), some(n, n), strings.Repeat("n", n-1)+":", "\xe4"+strings.Repeat("n", n-1))
	}
	return append(l, strings.Repeat("n", 128), strings.Repeat("n", 256), strings.Repeat("n", 320), strings.Repeat("n", 1<<16+1))
}

func TestMay(t *testing.T) {
	for _, name := range names() {
		if sig.May(name) != may(name) {
			t.Errorf("9.3: May(%.80q), %d bytes: %v", name, len(name), !may(name))
		}
	}
	if !sig.May("cache.nixos.org-1") || sig.May("") || !sig.May(strings.Repeat("n", 64)) || sig.May(strings.Repeat("n", 65)) {
		t.Error("9.3: May of ordinary names")
	}
}

// Each byte alone, and ahead, amid and behind of what may be.
func TestMayOfEachByte(t *testing.T) {
	for b := range 256 {
		c := string([]byte{byte(b)})
		want := strings.Contains(signs, c)
		for _, name := range []string{c, c + "a", "a" + c, "a" + c + "a", strings.Repeat("a", 63) + c, c + strings.Repeat("a", 63)} {
			if sig.May(name) != want {
				t.Errorf("9.3: May(%q): %v", name, !want)
			}
		}
	}
}

func TestText(t *testing.T) {
	for k, name := range names() {
		for _, s := range []string{some(k, 64), strings.Repeat("\x00", 64), strings.Repeat("\xff", 64), strings.Repeat("\xfb", 64)} {
			if got := sig.Text(name, s); got != text(name, s) {
				t.Errorf("9.3: Text(%.80q, %q): %.200q", name, s, got)
			}
		}
	}
	want := "k-1:" + strings.Repeat("A", 86) + "=="
	if got := sig.Text("k-1", strings.Repeat("\x00", 64)); got != want {
		t.Errorf("9.3: Text of 64 bytes 0: %q", got)
	}
}

func TestTextOfOtherLengths(t *testing.T) {
	for n := range 200 {
		for _, name := range []string{"k-1", strings.Repeat("n", 64), "", "k 1"} {
			s := some(n, n)
			if got := sig.Text(name, s); got != text(name, s) || (got != "") != (n == 64 && may(name)) {
				t.Errorf("9.3: Text of %q and %d bytes: %.200q", name, n, got)
			}
		}
	}
	if got := sig.Text("k", some(1, 1<<20)); got != "" {
		t.Errorf("9.3: Text of many bytes: %.200q", got)
	}
}

// parsed is as 9.3 tells it.
func parsed(s string) (string, string, bool) {
	name, letters, _ := strings.Cut(s, ":")
	b, err := base64.StdEncoding.DecodeString(letters)
	if err != nil || s == "" || text(name, string(b)) != s {
		return "", "", false
	}
	return name, string(b), true
}

func wantParse(t *testing.T, s string) bool {
	t.Helper()
	name, body, is := parsed(s)
	gotName, gotBody, ok := sig.Parse(s)
	if ok != is || gotName != name || gotBody != body {
		t.Errorf("9.3: Parse(%.200q): %q, %q, %v, want %q, %q, %v", s, gotName, gotBody, ok, name, body, is)
	}
	return is
}

func wantNoText(t *testing.T, s string) {
	t.Helper()
	if wantParse(t, s) {
		t.Errorf("the test's own: %.200q", s)
	}
}

func TestParse(t *testing.T) {
	told := 0
	for k, name := range names() {
		s := name + ":" + base64.StdEncoding.EncodeToString([]byte(some(k, 64)))
		if wantParse(t, s) != may(name) {
			t.Errorf("the test's own: %.200q", s)
		}
		if may(name) {
			told++
		}
	}
	if told < 64 {
		t.Error("the test's own:", told)
	}
}

// A text with each byte in turn at each of its places.
func TestParseOfTurnedBytes(t *testing.T) {
	s := text("k-1", some(1, 64))
	yes := 0
	for i := range s {
		for b := range 256 {
			if wantParse(t, s[:i]+string([]byte{byte(b)})+s[i+1:]) {
				yes++
			}
		}
	}
	// Of each of three signs of a name 65, of 85 letters 64, of the last letter 4.
	if want := 3*65 + 1 + 85*64 + 4 + 2; yes != want {
		t.Errorf("the test's own: %d, want %d", yes, want)
	}
}

func TestParseOfWrongTexts(t *testing.T) {
	good := text("k-1", strings.Repeat("\xfb", 64))
	letters := good[4:]
	for _, s := range []string{
		// Without a stroke, with two, with nothing ahead of it or behind it.
		"", ":", "::", "k-1", "k-1:", ":" + letters, letters, "k-1" + letters, "k-1;" + letters, "k-1::" + letters, good + ":",
		":" + good, "k:1:" + letters, good[:40] + ":" + good[40:], good + ":" + good, good + ":" + letters, good + good, "::" + letters,
		"k-1:" + ":", "k-1::", strings.Repeat(":", 100), good + "::",
		// Names that may not be.
		"k 1:" + letters, "\xe4:" + letters, " :" + letters, "k-1 :" + letters, "\n" + good, "k/1:" + letters,
		strings.Repeat("n", 65) + ":" + letters, strings.Repeat("n", 300) + ":" + letters,
		// Too few letters and too many.
		good[:len(good)-1], good[:len(good)-2], good[:len(good)-3], good[:len(good)-4], "k-1:" + letters[1:], good + "=", good + "==",
		good + "A", good + "AAAA", "k-1:A" + letters, "k-1:AAAA" + letters, "k-1:" + letters[:86], "k-1:" + letters[:86] + "=",
		"k-1:" + letters[:84], "k-1:" + letters + letters, "k-1:=" + letters, "k-1:" + letters[:86] + "===", "k-1:" + letters[:86] + "AA",
		// Letters that are none, or stand where they may not.
		strings.ReplaceAll(good, "+", "-"), strings.ReplaceAll(good, "/", "_"), strings.ReplaceAll(good, "==", "AA"),
		good[:20] + "=" + good[21:], good[:20] + "\x00" + good[21:], good[:20] + "\xff" + good[21:], good[:20] + "!" + good[21:],
		// Blanks and ends of lines.
		good + "\n", good + "\r\n", good + " ", " " + good, "k-1: " + letters, "k-1:\n" + letters, good[:40] + "\n" + good[40:],
		good[:40] + " " + good[40:], good[:40] + "\r\n" + good[40:], good[:40] + "\n" + good[41:], good[:40] + "\t" + good[40:],
		"k-1\n:" + letters, good[:len(good)-2] + "\n==", good[:len(good)-1] + "\n=",
		// Long ones.
		good + strings.Repeat("=", 1<<16), good + strings.Repeat("\n", 1<<16), strings.Repeat(":", 1<<20), strings.Repeat("A", 1<<20),
		"k-1:" + strings.Repeat("A", 1<<20), strings.Repeat("k", 1<<20) + ":" + letters, strings.Repeat(good, 1<<12),
	} {
		wantNoText(t, s)
	}
	if !wantParse(t, good) {
		t.Error("the test's own")
	}
}

// Letters that say other than 64 bytes, and bits left over that are not 0.
func TestParseOfOtherLetters(t *testing.T) {
	for n := range 200 {
		for _, name := range []string{"k", strings.Repeat("n", 24), strings.Repeat("n", 64)} {
			s := name + ":" + base64.StdEncoding.EncodeToString([]byte(some(n, n)))
			if wantParse(t, s) != (n == 64) {
				t.Errorf("the test's own: %d", n)
			}
		}
	}
	const set = "ABCDEFGHIJKLMNOPQRSTUVWXYZabcdefghijklmnopqrstuvwxyz0123456789+/"
	for i, c := range set {
		s := "k:" + strings.Repeat("/", 85) + string(c) + "=="
		if wantParse(t, s) != (i%16 == 0) {
			t.Errorf("the test's own: %q", s)
		}
	}
}

// Every cut of a text, at its beginning and its end.
func TestParseOfCuts(t *testing.T) {
	s := text(strings.Repeat("n", 60)+"-1.a", some(5, 64))
	for i := range s {
		wantNoText(t, s[:i])
		// Less some of its name it is yet a text.
		if wantParse(t, s[i:]) != (i < 64) {
			t.Errorf("the test's own: %d", i)
		}
	}
}

// 9.3: Parse tells what Text was told.
func TestToldIsRead(t *testing.T) {
	for k, name := range names() {
		body := some(3000+k, 64)
		n, s, ok := sig.Parse(sig.Text(name, body))
		if ok != may(name) || ok && (n != name || s != body) || !ok && (n != "" || s != "") {
			t.Errorf("9.3: Parse of Text of %.80q: %q, %q, %v", name, n, s, ok)
		}
	}
}

// 9.4

func TestSignedVerifies(t *testing.T) {
	for k, seed := range seeds(20) {
		for _, msg := range []string{"", some(k, k+1), some(k, 40+k), some(k, 110+k), seed} {
			pub, ok := sig.Public(seed)
			s, is := sig.Sign(seed, msg)
			if !ok || !is || !sig.Verify(pub, msg, s) || !libraryVerify(pub, msg, s) {
				t.Errorf("9.4: of seed %q and %q: %q", seed, msg, s)
			}
			name, body, ok := sig.Parse(sig.Text("k-1", s))
			if !ok || name != "k-1" || !sig.Verify(pub, msg, body) {
				t.Errorf("9.4: of seed %q and %q, read again: %q", seed, msg, body)
			}
		}
	}
}

// R1: every call ends without a panic, whatever it is given.
func TestAnythingEnds(t *testing.T) {
	l := []string{"", ":", "\x00", "\u00e4", nought(), halfway(), strings.Repeat(nought(), 2), text("k", some(1, 64)), some(2, 1<<16)}
	for _, n := range []int{1, 31, 32, 33, 63, 64, 65, 127, 128, 129} {
		for _, b := range []string{"\x00", "\xff", "\x80", "a", ":"} {
			l = append(l, strings.Repeat(b, n))
		}
	}
	for i, a := range l {
		_, public := sig.Public(a)
		_, signed := sig.Sign(a, l[len(l)-1-i])
		if public != (len(a) == 32) || signed != public {
			t.Errorf("9.1: a seed of %d bytes: %v, %v", len(a), public, signed)
		}
		sig.May(a)
		wantParse(t, a)
		for k, b := range l {
			if got := sig.Text(a, b); got != text(a, b) {
				t.Errorf("9.3: Text(%.70q, %.70q): %.200q", a, b, got)
			}
			s := l[(3*i+k)%len(l)]
			sig.Verify(a, s, b)
			if len(a) != 32 || len(b) != 64 {
				wantVerify(t, "9.2: anything", a, s, b, false)
			}
		}
	}
}

// R3

// loose is s, and the bytes that it stands on.
func loose(s string) (string, []byte) {
	b := []byte(s)
	return unsafe.String(&b[0], len(b)), b
}

func TestNothingIsKept(t *testing.T) {
	body := some(2, 64)
	seed, seedBytes := loose(some(1, 32))
	msg, msgBytes := loose("message")
	name, nameBytes := loose("k-1")
	s, bytes := loose(text("k-1", body))
	pub, _ := sig.Public(seed)
	signed, _ := sig.Sign(seed, msg)
	told := sig.Text(name, body)
	gotName, gotBody, _ := sig.Parse(s)
	if seed != some(1, 32) || msg != "message" || name != "k-1" || s != text("k-1", body) {
		t.Error("R3: what was handed in changed")
	}
	for _, b := range [][]byte{seedBytes, msgBytes, nameBytes, bytes} {
		clear(b)
	}
	if pub != libraryPublic(some(1, 32)) || signed != librarySign(some(1, 32), "message") {
		t.Errorf("R3: what was told changed: %q, %q", pub, signed)
	}
	if told != text("k-1", body) || gotName != "k-1" || gotBody != body {
		t.Errorf("R3: what was told changed: %q, %q, %q", told, gotName, gotBody)
	}
}

// R1, R5: a call hangs on no call ahead of it.
func TestCallsDoNotTouch(t *testing.T) {
	var all []string
	for range 3 {
		var told string
		for _, seed := range append(seeds(3), "", some(1, 31)) {
			pub, ok := sig.Public(seed)
			s, is := sig.Sign(seed, "message")
			name, body, parsed := sig.Parse(sig.Text("k-1", s))
			told += fmt.Sprintln(pub, ok, s, is, name, body, parsed, sig.May(seed), sig.Verify(pub, "message", s))
		}
		all = append(all, told)
	}
	if all[0] != all[1] || all[1] != all[2] {
		t.Error("R1: the same calls told something else")
	}
}
