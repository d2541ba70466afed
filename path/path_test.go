package path_test

import (
	"crypto/sha256"
	"encoding/hex"
	"math/big"
	"math/rand"
	"regexp"
	"slices"
	"strconv"
	"strings"
	"testing"
	"unsafe"

	"shelfmark/api"
	"shelfmark/codec"
	"shelfmark/nar"
	"shelfmark/path"
	"shelfmark/scan"
	"shelfmark/sha"
)

// The chapter's words, told anew.

const (
	by32  = "0123456789abcdfghijklmnpqrsvwxyz"
	named = "ABCDEFGHIJKLMNOPQRSTUVWXYZabcdefghijklmnopqrstuvwxyz0123456789+-._?="
	store = "/nix/store/"
)

var (
	nameForm = regexp.MustCompile(`\A[A-Za-z0-9+_?=-][A-Za-z0-9+._?=-]{0,210}\z`)
	pathForm = regexp.MustCompile(`\A/nix/store/([0-9abcdfghijklmnpqrsvwxyz]{32})-(.+)\z`)
	partForm = regexp.MustCompile(`\A[0-9abcdfghijklmnpqrsvwxyz]{32}\z`)
)

// mayName is MayName, as 13.1 says it.
func mayName(s string) bool { return nameForm.MatchString(s) }

func hash(s string) string {
	h := sha256.Sum256([]byte(s))
	return string(h[:])
}

// letters is the 32 letters of 20 bytes: they are a number, the lowest byte first,
// and its digits by 32.
func letters(b []byte) string {
	n := new(big.Int)
	for i := len(b) - 1; i >= 0; i-- {
		n.Lsh(n, 8).Add(n, big.NewInt(int64(b[i])))
	}
	l, digit := "", new(big.Int)
	for range 32 {
		n.DivMod(n, big.NewInt(32), digit)
		l = by32[digit.Int64():][:1] + l
	}
	return l
}

// made is Make, as 13.1 says it.
func made(kind, h, name string) (string, bool) {
	if len(h) != 32 || !mayName(name) {
		return "", false
	}
	b := make([]byte, 20)
	for i, c := range []byte(hash(kind + ":sha256:" + hex.EncodeToString([]byte(h)) + ":/nix/store:" + name)) {
		b[i%20] ^= c
	}
	return store + letters(b) + "-" + name, true
}

// parsed is Parse, as 13.1 says it.
func parsed(p string) (string, string, bool) {
	m := pathForm.FindStringSubmatch(p)
	if m == nil || !mayName(m[2]) {
		return "", "", false
	}
	return m[1], m[2], true
}

// sourced is Source, as 13.2 says it.
func sourced(refs []string, self bool, h, name string) (string, bool) {
	kind := []string{"source"}
	for _, ref := range refs {
		if _, _, ok := parsed(ref); !ok {
			return "", false
		}
		kind = append(kind, ref)
	}
	rising := slices.Compact(slices.Sorted(slices.Values(refs)))
	if !slices.Equal(rising, refs) {
		return "", false
	}
	if self {
		kind = append(kind, "self")
	}
	return made(strings.Join(kind, ":"), h, name)
}

// modulo is Modulo, as 13.3 says it.
func modulo(s, part string) string {
	if !partForm.MatchString(part) {
		return ""
	}
	pieces := strings.Split(s, part)
	b, at, behind := "", 0, ""
	for i, piece := range pieces {
		if i > 0 {
			b += strings.Repeat("0", 32)
			behind += "|" + strconv.Itoa(at)
			at += 32
		}
		b, at = b+piece, at+len(piece)
	}
	return hash(b + behind)
}

// What is handed in.

const (
	one   = by32
	two   = "zyxwvsrqpnmlkjihgfdcba9876543210"
	three = "00000000000000000000000000000000"
	four  = "abababababababababababababababab"
	five  = "babababababababababababababababa"
	six   = "abcdabcdabcdabcdabcdabcdabcdabcd"
)

func parts() []string { return []string{one, two, three, four, five, six} }

// wrongParts are texts that may be no parts.
func wrongParts() []string {
	l := []string{
		"", "0", "bad", one[1:], one[:31], one + "0", one + one, one[:16], strings.ToUpper(four), "A" + one[1:], one[:31] + "Z",
		strings.Repeat("\x00", 32), strings.Repeat("\xff", 32), strings.Repeat(" ", 32), strings.Repeat("\u00e4", 16), one[:31] + "\n",
		strings.Repeat("0", 1<<16), store + one, store + one + "-name",
	}
	for _, c := range "eotu-/." {
		for i := range 32 {
			l = append(l, one[:i]+string(c)+one[i+1:])
		}
	}
	return l
}

func longest() string { return strings.Repeat("n", 211) }

func names() []string {
	return []string{
		"a", "Z", "0", "-", "+", "_", "?", "=", "a.", "a..", "-.", "--", "name", "name-1.2.tar.gz", "hello-2.12.1", "gcc-wrapper-13+20?a=b_C",
		one, "self", "source", longest(), longest()[1:], "-" + strings.Repeat(".", 210), named[:20], "+" + named,
	}
}

// wrongNames are texts that may be no names.
func wrongNames() []string {
	l := []string{
		"", ".", "..", ".a", "..a", ".-", "." + longest()[1:], longest() + "n", longest() + ".", strings.Repeat("n", 422), strings.Repeat("n", 1<<16),
		" ", "a b", " a", "a ", "a/b", "/", "/a", "a/", "a:", ":", "a\n", "\na", "\n", "a\x00", "\x00", "\x00a", "\xff", "a\xff", "\u00e4", "na\u00efve", "\u0663",
		"a,b", "a;b", "a*", "a~", "a@1", "a!", "a#", "a%20", "a&b", "a(1)", "a[1]", "a{1}", "a|b", "a\\b", "a'", "a\"", "a<", "a>", "a^", "a`", "a$",
		store + one + "-a", "\uff41", "a\u0301", longest() + "\n", longest()[1:] + "\u00e4", strings.Repeat(".", 211),
	}
	return l
}

func kinds() []string {
	return []string{"source", "text", "output:out", "", "k", ":", "source:self", "source:" + store + one + "-a", "\x00", "\xff\xfe", "\u00e4", strings.Repeat("kind", 1000)}
}

func hashes() []string {
	return []string{
		hash(""), hash("x"), strings.Repeat("\x00", 32), strings.Repeat("\xff", 32), one, strings.Repeat("\u00e4", 16),
		strings.Repeat("\x00", 31) + "\x01", "\x01" + strings.Repeat("\x00", 31), strings.Repeat(":", 32),
	}
}

func brief(s string) string {
	if len(s) > 300 {
		return s[:300] + ".."
	}
	return s
}

func wantName(t *testing.T, s string, want bool) {
	t.Helper()
	if got := path.MayName(s); got != want {
		t.Errorf("13.1: MayName of %q, %d bytes: %v", brief(s), len(s), got)
	}
}

func wantMake(t *testing.T, kind, h, name string) {
	t.Helper()
	want, may := made(kind, h, name)
	if got, ok := path.Make(kind, h, name); got != want || ok != may {
		t.Errorf("13.1: Make of %q, a hash of %d bytes, %q: %q %v, want %q %v", brief(kind), len(h), brief(name), got, ok, want, may)
	}
}

func wantParse(t *testing.T, p string) {
	t.Helper()
	part, name, may := parsed(p)
	if gotPart, gotName, ok := path.Parse(p); gotPart != part || gotName != name || ok != may {
		t.Errorf("13.1: Parse of %q: %q %q %v, want %q %q %v", brief(p), gotPart, gotName, ok, part, name, may)
	}
}

func wantSource(t *testing.T, refs []string, self bool, h, name string) {
	t.Helper()
	want, may := sourced(refs, self, h, name)
	if got, ok := path.Source(refs, self, h, name); got != want || ok != may {
		t.Errorf("13.2: Source of %d refs %q, %v, a hash of %d bytes, %q: %q %v, want %q %v",
			len(refs), brief(strings.Join(refs, " ")), self, len(h), brief(name), got, ok, want, may)
	}
}

func wantModulo(t *testing.T, s, part string) {
	t.Helper()
	if got, want := path.Modulo(s, part), modulo(s, part); got != want {
		t.Errorf("13.3: Modulo of %q, %d bytes, by %q: %x, want %x", brief(s), len(s), brief(part), got, want)
	}
}

// 13.1: MayName

func TestMayName(t *testing.T) {
	for _, s := range names() {
		wantName(t, s, true)
		wantName(t, s, mayName(s))
	}
	for _, s := range wrongNames() {
		wantName(t, s, false)
		wantName(t, s, mayName(s))
	}
}

func TestMayNameOfEachByte(t *testing.T) {
	for c := range 256 {
		letter := string([]byte{byte(c)})
		for _, n := range []int{1, 2, 3, 10, 210, 211} {
			for i := range n {
				s := strings.Repeat("n", i) + letter + strings.Repeat("n", n-i-1)
				wantName(t, s, strings.Contains(named, letter) && !(i == 0 && letter == "."))
			}
		}
	}
}

func TestMayNameOfEachLength(t *testing.T) {
	for n := range 600 {
		for _, c := range []string{"n", "Z", "9", "-", "?"} {
			wantName(t, strings.Repeat(c, n), n >= 1 && n <= 211)
		}
		wantName(t, strings.Repeat(".", n), false)
		wantName(t, "="+strings.Repeat(".", n), n < 211)
	}
}

// 13.1: Make

func TestMake(t *testing.T) {
	for _, kind := range kinds() {
		for _, h := range hashes() {
			for _, name := range append(names(), wrongNames()...) {
				wantMake(t, kind, h, name)
			}
		}
	}
}

// Paths that are known: a file of one line, as Nix adds it.
func TestMakeOfAKnownFile(t *testing.T) {
	s, err := nar.Pack([]api.Node{{Kind: api.KFile, Data: "mycontent\n"}})
	if err != api.OK {
		t.Fatal("Pack:", err)
	}
	const want = store + "xv2iccirbrvklck36f1g7vldn5v58vck-myfile"
	if got, ok := path.Make("source", sha.Sum(s), "myfile"); !ok || got != want {
		t.Errorf("13.1: Make of a known file: %q %v", got, ok)
	}
	if got, ok := path.Source(nil, false, sha.Sum(s), "myfile"); !ok || got != want {
		t.Errorf("13.2: Source of a known file: %q %v", got, ok)
	}
}

func TestMakeOfHashesThatMayNotBe(t *testing.T) {
	for n := range 100 {
		for _, c := range []string{"\x00", "a", "\xff"} {
			h := strings.Repeat(c, n)
			wantMake(t, "source", h, "name")
			if p, ok := path.Make("source", h, "name"); ok != (n == 32) || ok != (p != "") {
				t.Errorf("13.1: Make of a hash of %d bytes: %q %v", n, p, ok)
			}
		}
	}
	wantMake(t, "source", hex.EncodeToString([]byte(hash("x"))), "name")
	wantMake(t, "source", strings.Repeat("h", 1<<20), "name")
	wantMake(t, "", "", "")
	wantMake(t, "source", "", ".name")
}

func TestMakeOfNamesThatMayNotBe(t *testing.T) {
	for _, name := range wrongNames() {
		if p, ok := path.Make("source", hash("x"), name); ok || p != "" {
			t.Errorf("13.1: Make of %q: %q %v", brief(name), p, ok)
		}
	}
	for c := range 256 {
		for _, s := range []string{string([]byte{byte(c)}), string([]byte{byte(c), 'n'}), string([]byte{'n', byte(c)})} {
			wantMake(t, "source", hash("x"), s)
		}
	}
	for n := range 300 {
		wantMake(t, "source", hash("x"), strings.Repeat("n", n))
	}
}

// Another kind, hash or name makes another path, wherever they are otherwise.
func TestMakeTellsThemApart(t *testing.T) {
	seen := map[string]string{}
	for _, kind := range kinds() {
		for _, h := range hashes() {
			for _, name := range names() {
				p, _ := path.Make(kind, h, name)
				part, _, _ := parsed(p)
				from := kind + "\n" + h + "\n" + name
				if earlier, ok := seen[part]; ok {
					t.Errorf("13.1: Make of %q and of %q has one part", brief(from), brief(earlier))
				}
				seen[part] = from
			}
		}
	}
}

// 13.1: Parse

// What Make tells is told again.
func TestParseOfWhatIsMade(t *testing.T) {
	for _, kind := range kinds() {
		for _, h := range hashes() {
			for _, name := range names() {
				p, made := path.Make(kind, h, name)
				part, got, ok := path.Parse(p)
				if !made || !ok || got != name || p != store+part+"-"+name || !scan.May(part) {
					t.Errorf("13.1: Parse of what was made, %q: %q %q %v", p, part, got, ok)
				}
			}
		}
	}
}

func TestParse(t *testing.T) {
	for _, part := range append(parts(), wrongParts()...) {
		for _, name := range append(names(), wrongNames()...) {
			wantParse(t, store+part+"-"+name)
		}
	}
	for _, part := range parts() {
		for _, name := range names() {
			gotPart, gotName, ok := path.Parse(store + part + "-" + name)
			if gotPart != part || gotName != name || !ok {
				t.Errorf("13.1: Parse of %q and %q: %q %q %v", part, name, gotPart, gotName, ok)
			}
		}
	}
}

// wrongPaths are texts that are no paths.
func wrongPaths() []string {
	const p = store + one + "-name"
	l := []string{
		"", "/", "/nix", "/nix/store", "/nix/store/", store + one, store + one + "-", store + one[:31], store + "-name", store + "name",
		store + one[:31] + "-name", store + one + "0-name", store + one[1:] + "-name", store + one + one + "-name", store + one[:31],
		p[1:], "/" + p, " " + p, p + " ", p + "\n", p + "/", p + "/bin", p + "\x00", "\x00" + p, p + p, p + ":", p + ":self", p + " " + p,
		"/nix/Store/" + one + "-name", "/NIX/STORE/" + one + "-name", "/nix/storf/" + one + "-name", "/gnu/store/" + one + "-name", "/nix/stor/" + one + "-name",
		"/nix/store" + one + "-name", "/nix/store//" + one + "-name", "/nix/store/./" + one + "-name", "/nix/store:" + one + "-name", "nix/store/" + one + "-name",
		"/nix/store\\" + one + "-name", "/nix/stores/" + one + "-name", "/tmp" + p, one + "-name", "-name", "name", "/" + one + "-name", "/nix/store/../store/" + one + "-name",
		store + one + "_name", store + one + "name", store + one + "/name", store + one + " name", store + one + "\u2212name", store + one + ".name", store + one + "\x00name",
		store + strings.ToUpper(one) + "-name", store + "e" + one[1:] + "-name", store + one[:31] + "u-name", store + one[:16] + "-" + one[17:] + "-name",
		store + strings.Repeat("-", 32) + "-name", store + strings.Repeat("-", 40), strings.Repeat("/", 50), strings.Repeat("\xff", 60),
	}
	for _, name := range wrongNames() {
		l = append(l, store+one+"-"+name)
	}
	for _, part := range wrongParts() {
		l = append(l, store+part+"-name")
	}
	return l
}

func TestParseOfWrongPaths(t *testing.T) {
	for _, p := range wrongPaths() {
		if part, name, ok := path.Parse(p); ok || part != "" || name != "" {
			t.Errorf("13.1: Parse of %q: %q %q %v", brief(p), part, name, ok)
		}
		wantParse(t, p)
	}
}

// Wherever it ends, and wherever it begins.
func TestParseOfPieces(t *testing.T) {
	for _, name := range []string{"a", "a-b", "-", "a.b", longest()} {
		p := store + one + "-" + name
		for i := range len(p) + 1 {
			wantParse(t, p[:i])
			wantParse(t, p[i:])
			if _, got, ok := path.Parse(p[:i]); ok != (i > len(p)-len(name)) || ok && got != p[len(p)-len(name):i] {
				t.Errorf("13.1: Parse of %q: %q %v", p[:i], got, ok)
			}
		}
		wantParse(t, p+"n")
		wantParse(t, p+".")
	}
}

// Each byte there is at each place, put in there, and one taken out.
func TestParseOfEachByte(t *testing.T) {
	for _, p := range []string{store + two + "-a.b-c", store + three + "-="} {
		for i := range len(p) {
			for c := range 256 {
				letter := string([]byte{byte(c)})
				wantParse(t, p[:i]+letter+p[i+1:])
				wantParse(t, p[:i]+letter+p[i:])
			}
			wantParse(t, p[:i]+p[i+1:])
			wantParse(t, p[:i]+"\u00e4"+p[i:])
		}
	}
}

func TestParseOfNamesOfEachLength(t *testing.T) {
	for n := range 500 {
		p := store + one + "-" + strings.Repeat("n", n)
		wantParse(t, p)
		if _, _, ok := path.Parse(p); ok != (n >= 1 && n <= 211) {
			t.Errorf("13.1: Parse of a path with a name of %d bytes: %v", n, ok)
		}
	}
}

// 13.2

// refs are paths that rise, byte by byte: great letters are below small ones, and
// a text is below those that go on behind it.
func refs() []string {
	return []string{
		store + three + "-+", store + three + "--", store + three + "-0", store + three + "-=", store + three + "-?", store + three + "-A", store + three + "-Z",
		store + three + "-_", store + three + "-a", store + three + "-a-", store + three + "-a0", store + three + "-aA", store + three + "-aa", store + three + "-b",
		store + three[:31] + "1-a", store + one + "-" + longest(), store + four + "-B", store + four + "-a", store + six + "-a", store + five + "-a", store + two + "-a", store + two + "-self",
	}
}

// wantBoth holds Source against want, with self and without.
func wantBoth(t *testing.T, refs []string) {
	t.Helper()
	wantSource(t, refs, false, hash("x"), "name")
	wantSource(t, refs, true, hash("x"), "name")
}

func TestSourceOfNoRefs(t *testing.T) {
	wantBoth(t, nil)
	wantBoth(t, []string{})
	wantBoth(t, refs()[:0])
	for _, h := range hashes() {
		for _, name := range names() {
			for _, self := range []bool{false, true} {
				kind := "source"
				if self {
					kind = "source:self"
				}
				want, _ := made(kind, h, name)
				if got, ok := path.Source(nil, self, h, name); !ok || got != want {
					t.Errorf("13.2: Source of no refs, %v, %q: %q %v, want %q", self, name, got, ok, want)
				}
			}
		}
	}
}

func TestSourceOfRefs(t *testing.T) {
	l := refs()
	for i, a := range l {
		for _, self := range []string{"", ":self"} {
			want, _ := made("source:"+a+self, hash("x"), "name")
			if got, ok := path.Source([]string{a}, self != "", hash("x"), "name"); !ok || got != want {
				t.Errorf("13.2: Source of %q%s: %q %v, want %q", a, self, got, ok, want)
			}
			for k, b := range l {
				want, may := made("source:"+a+":"+b+self, hash("x"), "name")
				if i >= k {
					want, may = "", false
				}
				if got, ok := path.Source([]string{a, b}, self != "", hash("x"), "name"); got != want || ok != may {
					t.Errorf("13.2: Source of %q and %q%s: %q %v, want %q", a, b, self, got, ok, want)
				}
			}
		}
		for k := i; k <= len(l); k++ {
			wantBoth(t, l[i:k])
			if p, ok := path.Source(l[i:k], true, hash("x"), "name"); !ok || p == "" {
				t.Errorf("13.2: Source of refs from %d to %d: %q %v", i, k, p, ok)
			}
		}
	}
}

// Alike, wherever they stand, and any two that have changed places.
func TestSourceOfRefsThatDoNotRise(t *testing.T) {
	for i := range refs() {
		for k := range i + 1 {
			l := refs()
			l[i], l[k] = l[k], l[i]
			if i == k {
				l = slices.Insert(l, i, l[i])
			}
			wantBoth(t, l)
			for _, self := range []bool{false, true} {
				if p, ok := path.Source(l, self, hash("x"), "name"); ok || p != "" {
					t.Errorf("13.2: Source of refs that do not rise, %d and %d: %q %v", k, i, p, ok)
				}
			}
		}
	}
	l := refs()
	slices.Reverse(l)
	wantBoth(t, l)
	wantBoth(t, append(refs(), refs()...))
	wantBoth(t, append(refs(), refs()[0]))
}

// Wherever one stands that is no path, even where it rises.
func TestSourceOfWrongRefs(t *testing.T) {
	for _, bad := range wrongPaths() {
		for i := range 4 {
			l := slices.Insert([]string{refs()[0], refs()[5], refs()[10]}, i, bad)
			rising := slices.Sorted(slices.Values(l))
			for _, l := range [][]string{{bad}, l, rising} {
				wantBoth(t, l)
				for _, self := range []bool{false, true} {
					if p, ok := path.Source(l, self, hash("x"), "name"); ok || p != "" {
						t.Errorf("13.2: Source of refs with %q: %q %v", brief(bad), p, ok)
					}
				}
			}
		}
	}
}

func TestSourceOfWrongHashesAndNames(t *testing.T) {
	for _, l := range [][]string{nil, refs()[:1], refs(), {"bad"}} {
		for _, self := range []bool{false, true} {
			for _, n := range []int{0, 1, 20, 31, 32, 33, 64} {
				wantSource(t, l, self, strings.Repeat("h", n), "name")
			}
			for _, name := range append(names(), wrongNames()...) {
				wantSource(t, l, self, hash("y"), name)
			}
			wantSource(t, l, self, "", "")
		}
	}
}

// More refs than an Info may have are refs, too.
func TestSourceOfManyRefs(t *testing.T) {
	var l []string
	for i := range 3000 {
		p, _ := made("text", hash(strconv.Itoa(i)), "n"+strconv.Itoa(i))
		l = append(l, p)
	}
	wantBoth(t, l)
	slices.Sort(l)
	wantBoth(t, l)
	if _, ok := path.Source(l, true, hash("x"), "name"); !ok {
		t.Error("13.2: Source of many refs")
	}
	wantBoth(t, append(l, l[len(l)-1]))
}

func TestSourceOfSomeRefs(t *testing.T) {
	r, bad := rand.New(rand.NewSource(1)), wrongPaths()
	for range 3000 {
		var l []string
		for _, ref := range refs() {
			if r.Intn(3) == 0 {
				l = append(l, ref)
			}
		}
		if len(l) > 0 {
			switch i := r.Intn(len(l)); r.Intn(6) {
			case 0:
				l[i] = bad[r.Intn(len(bad))]
			case 1:
				k := r.Intn(len(l))
				l[i], l[k] = l[k], l[i]
			case 2:
				l = append(l, l[i])
			}
		}
		h := hash(strconv.Itoa(r.Intn(100)))
		wantSource(t, l, r.Intn(2) == 0, h, names()[r.Intn(len(names()))])
	}
}

// 13.3

// rows are texts in which parts stand, or nearly do.
func rows() []string {
	l := []string{
		"", "x", "\x00", "\xff\xfe", "|", "|0", one, "!" + one, one + "!", "!" + one + "!", one + one, one + one + one, one + two + one, one + "|0", one + "|" + one,
		"x" + one + "y" + one, one[:31], one[1:], one[:31] + "!", one[:31] + one, one + one[1:], one[:16] + "!" + one[16:], store + one + "-name\x00" + store + two + "-name",
		three, three + one, one + three, three + one + three, "1" + three, strings.ToUpper(one), strings.ToUpper(one) + one, "e" + one[1:],
		strings.Repeat("ab", 15) + "a", strings.Repeat("ab", 16) + "a", strings.Repeat("ab", 33), "b" + strings.Repeat("ab", 32), strings.Repeat("abcd", 9), "cd" + strings.Repeat("abcd", 17),
		strings.Repeat(one, 9), strings.Repeat(one+"\xff", 9), "\u00e4" + one + "\u20ac" + two + "\U0001f4da", strings.Repeat("!", 9) + one, strings.Repeat("!", 10) + one, strings.Repeat("!", 1000) + one,
	}
	for _, n := range []int{31, 32, 33, 40, 63, 64, 65, 95, 96, 97, 200} {
		l = append(l, strings.Repeat("0", n), strings.Repeat("0", n)+"!", "x"+strings.Repeat("0", n)+"x")
	}
	return l
}

func TestModulo(t *testing.T) {
	for i, c := range []struct{ s, part, hashed string }{
		{"", one, ""},
		{"", three, ""},
		{"none", one, "none"},
		{one[:31], one, one[:31]},
		{one, one, three + "|0"},
		{one + "!", one, three + "!|0"},
		{"!" + one, one, "!" + three + "|1"},
		{"a" + one + "b" + one, one, "a" + three + "b" + three + "|1|34"},
		{one + one, one, three + three + "|0|32"},
		{one + two + one, one, three + two + three + "|0|64"},
		{one + two + one, two, one + three + one + "|32"},
		{one + two + one, four, one + two + one},
		{three, three, three + "|0"},
		{strings.Repeat("0", 31), three, strings.Repeat("0", 31)},
		{strings.Repeat("0", 40), three, strings.Repeat("0", 40) + "|0"},
		{strings.Repeat("0", 64), three, strings.Repeat("0", 64) + "|0|32"},
		{strings.Repeat("0", 65), three, strings.Repeat("0", 65) + "|0|32"},
		{"!" + three, three, "!" + three + "|1"},
		{three, one, three},
		{three + one, one, three + three + "|32"},
		{one + three, one, three + three + "|0"},
		{strings.Repeat("ab", 17), four, three + "ab|0"},
		{strings.Repeat("ab", 17), five, "a" + three + "b|1"},
		{strings.Repeat("ab", 33), four, three + three + "ab|0|32"},
		{strings.Repeat("abcd", 9), six, three + "abcd|0"},
		{"|0" + one, one, "|0" + three + "|2"},
		{one + "|0", one, three + "|0|0"},
		{strings.Repeat("x", 1000) + one, one, strings.Repeat("x", 1000) + three + "|1000"},
		{strings.ToUpper(four), four, strings.ToUpper(four)},
		{"\xff" + one + "\x00", one, "\xff" + three + "\x00|1"},
	} {
		if got := path.Modulo(c.s, c.part); got != hash(c.hashed) {
			t.Errorf("13.3: Modulo, case %d: %x", i, got)
		}
		wantModulo(t, c.s, c.part)
	}
}

func TestModuloInRows(t *testing.T) {
	for _, s := range rows() {
		for _, part := range parts() {
			wantModulo(t, s, part)
		}
	}
}

func TestModuloOfWrongParts(t *testing.T) {
	for _, part := range wrongParts() {
		for _, s := range []string{"", "x", part, part + part, "!" + part + "!" + one, strings.Repeat("0", 100)} {
			if got := path.Modulo(s, part); got != "" {
				t.Errorf("13.3: Modulo by %q: %x", brief(part), got)
			}
		}
	}
}

func TestModuloAtEachPlace(t *testing.T) {
	for at := range 300 {
		for _, behind := range []string{"", "!", one, three} {
			s := strings.Repeat("0", at) + one + behind
			wantModulo(t, s, one)
			wantModulo(t, s, three)
		}
	}
}

// Where the part stands is told, so that it is another hash than that of zeros.
func TestModuloTellsPlacesApart(t *testing.T) {
	seen := map[string]string{}
	for _, s := range []string{three + three, one + three, three + one, one + one, "x" + one, one + "x", "x" + three, three + "x", "", one, three} {
		h := path.Modulo(s, one)
		if earlier, ok := seen[h]; ok || len(h) != 32 {
			t.Errorf("13.3: Modulo of %q and of %q: %x", s, earlier, h)
		}
		seen[h] = s
	}
}

// 13.4

// wantAlike holds Modulo of pieces with a between against that with b between, as
// long as nothing else of them is as a or b.
func wantAlike(t *testing.T, pieces []string, a, b string) bool {
	t.Helper()
	x, y := strings.Join(pieces, a), strings.Join(pieces, b)
	if !slices.Equal(strings.Split(x, a), pieces) || !slices.Equal(strings.Split(y, b), pieces) {
		return false
	}
	if path.Modulo(x, a) != path.Modulo(y, b) || path.Modulo(x, a) == "" {
		t.Errorf("13.4: Modulo of %q hangs on which part it is, %q or %q", pieces, a, b)
	}
	return true
}

func TestModuloDoesNotHangOnThePart(t *testing.T) {
	for _, pieces := range [][]string{
		{""}, {"none"}, {"", ""}, {"a", "b"}, {"", "b"}, {"a", ""}, {"", "", ""}, {"a", "", "b"}, {"", "", "", ""}, {"a", "b", "c", "d"},
		{store, "-name\n" + store, "-name\n"}, {"\x00", "\xff", "\u00e4"}, {strings.Repeat("!", 1000), "!"}, {"|", "|7", "|1"},
	} {
		for _, a := range parts() {
			for _, b := range parts() {
				if !wantAlike(t, pieces, a, b) {
					t.Errorf("the test's own: %q with %q or %q", pieces, a, b)
				}
			}
		}
	}
}

func TestModuloDoesNotHangOnThePartOfSome(t *testing.T) {
	r, n := rand.New(rand.NewSource(2)), 0
	for range 3000 {
		pieces := []string{""}
		for range r.Intn(5) {
			i := r.Intn(4)
			pieces = append(pieces, []string{"", "x", "0", "ab", "a", one[:20], two[12:], "|", "\x00\xff"}[r.Intn(9)])
			pieces[0] += []string{"", "!", "0", "a"}[i]
		}
		h, k := hash(strconv.Itoa(r.Int())), hash(strconv.Itoa(r.Int()))
		a, b := codec.Base32(h[:20]), codec.Base32(k[:20])
		if r.Intn(4) == 0 {
			a = parts()[r.Intn(len(parts()))]
		}
		if wantAlike(t, pieces, a, b) {
			n++
		}
	}
	if n < 1000 {
		t.Error("the test's own: too few texts with nothing else as the parts:", n)
	}
}

// What refers to itself has one hash, by whichever path it does.
func TestModuloOfATreeThatRefersToItself(t *testing.T) {
	tree := func(part string) string {
		s, err := nar.Pack([]api.Node{
			{Kind: api.KDir},
			{Path: "a", Kind: api.KLink, Data: store + part + "-name/b"},
			{Path: "b", Kind: api.KExec, Data: "#!" + store + part + "-name/a\n" + part},
		})
		if err != api.OK {
			t.Fatal("Pack:", err)
		}
		return s
	}
	h := path.Modulo(tree(three), three)
	p, _ := path.Source(nil, true, h, "name")
	part, _, ok := path.Parse(p)
	if !ok || path.Modulo(tree(part), part) != h {
		t.Error("13.4: Modulo of a tree hangs on its path", p)
	}
	if sha.Sum(tree(part)) == sha.Sum(tree(three)) || path.Modulo(tree(part), three) == h {
		t.Error("the test's own: trees that are alike")
	}
}

// Rules of all calls

// R1
func TestNothingPanics(t *testing.T) {
	r := rand.New(rand.NewSource(3))
	text := func() string {
		b := make([]byte, r.Intn(80))
		for i := range b {
			b[i] = byte(r.Intn(256))
			if r.Intn(3) > 0 {
				b[i] = "0a/-.:"[r.Intn(6)]
			}
		}
		s := string(b)
		switch r.Intn(6) {
		case 0:
			return store + s
		case 1:
			return store + one + s
		case 2:
			return store + one + "-" + s
		}
		return s
	}
	for range 5000 {
		s, a, b := text(), text(), text()
		wantName(t, s, mayName(s))
		wantParse(t, s)
		wantMake(t, s, a, b)
		wantMake(t, s, hash(a), b)
		wantModulo(t, s+one+a, one)
		wantModulo(t, s, a)
		l := []string{s, a, b}
		wantSource(t, l[:r.Intn(4)], r.Intn(2) == 0, hash(a), "name")
	}
}

// R1: of many bytes.
func TestManyBytes(t *testing.T) {
	const n = 1 << 22
	long := strings.Repeat("0", n)
	wantName(t, long, false)
	wantMake(t, long, hash("x"), "name")
	wantMake(t, "source", hash("x"), long)
	wantMake(t, "source", long, "name")
	for _, p := range []string{long, store + long, store + one + "-" + long, store + long + "-name"} {
		if part, name, ok := path.Parse(p); ok || part != "" || name != "" {
			t.Error("R1: Parse of many bytes:", ok)
		}
		if got, ok := path.Source([]string{p}, true, hash("x"), "name"); ok || got != "" {
			t.Error("R1: Source of many bytes:", ok)
		}
	}
	var behind strings.Builder
	for at := 0; at < n; at += 32 {
		behind.WriteString("|" + strconv.Itoa(at))
	}
	if path.Modulo(long, three) != hash(long+behind.String()) {
		t.Error("R1: Modulo of many bytes that are the part")
	}
	if path.Modulo(long, one) != hash(long) || path.Modulo(long, long) != "" {
		t.Error("R1: Modulo of many bytes")
	}
}

// R1, R5: a call hangs on no call ahead of it.
func TestCallsDoNotTouch(t *testing.T) {
	for range 3 {
		for i, name := range append(names(), wrongNames()...) {
			wantName(t, name, mayName(name))
			wantMake(t, kinds()[i%len(kinds())], hashes()[i%len(hashes())], name)
			wantParse(t, store+one+"-"+name)
		}
		for i := range refs() {
			wantBoth(t, refs()[i:])
			wantBoth(t, append(refs()[i:], "bad"))
		}
		for _, s := range rows() {
			wantModulo(t, s, one)
			wantModulo(t, s, "bad")
		}
	}
}

// view is s as bytes that may be written into, and the text that they are.
func view(s string) (string, []byte) {
	b := []byte(s)
	return unsafe.String(unsafe.SliceData(b), len(b)), b
}

// views are texts that may be written into, and the bytes that they are.
type views struct{ bytes [][]byte }

func (v *views) of(s string) string {
	s, b := view(s)
	v.bytes = append(v.bytes, b)
	return s
}

// spoil writes into all of them.
func (v *views) spoil() {
	for _, b := range v.bytes {
		for i := range b {
			b[i] = '0'
		}
	}
}

// R3: what is handed in is neither changed nor kept, and what is told is new.
func TestNothingIsKept(t *testing.T) {
	var v views
	kind, h, name, bytes, part := v.of("source"), v.of(hash("x")), v.of("name"), v.of("!"+one+two+one), v.of(one)
	p, first, second := v.of(refs()[0]), v.of(refs()[0]), v.of(refs()[20])
	gotMade, _ := path.Make(kind, h, name)
	gotPart, gotName, _ := path.Parse(p)
	gotSource, _ := path.Source([]string{first, second}, true, h, name)
	gotModulo := path.Modulo(bytes, part)
	if kind != "source" || h != hash("x") || name != "name" || bytes != "!"+one+two+one || part != one {
		t.Error("R3: what was handed in changed")
	}
	if p != refs()[0] || first != refs()[0] || second != refs()[20] {
		t.Error("R3: paths that were handed in changed")
	}
	v.spoil()
	if want, _ := made("source", hash("x"), "name"); gotMade != want {
		t.Errorf("R3: what Make told hangs on what was handed in: %q", gotMade)
	}
	if gotPart != three || gotName != "+" {
		t.Errorf("R3: what Parse told hangs on what was handed in: %q %q", gotPart, gotName)
	}
	if want, _ := sourced([]string{refs()[0], refs()[20]}, true, hash("x"), "name"); gotSource != want {
		t.Errorf("R3: what Source told hangs on what was handed in: %q", gotSource)
	}
	if gotModulo != modulo("!"+one+two+one, one) {
		t.Errorf("R3: what Modulo told hangs on what was handed in: %x", gotModulo)
	}
}

// R3: Parse's part and name are of memory of their own, each.
func TestParseTellsNewMemory(t *testing.T) {
	for _, name := range names() {
		p, bytes := view(store + six + "-" + name)
		part, got, ok := path.Parse(p)
		for i := range bytes {
			bytes[i] = '!'
		}
		if !ok || part != six || got != name {
			t.Errorf("R3: what Parse told hangs on what was handed in: %q %q %v", part, got, ok)
		}
	}
}

// R3: neither the list of refs nor its spare room is written into.
func TestRefsStayAsTheyWere(t *testing.T) {
	for _, self := range []bool{false, true} {
		l := append(refs(), "spare", "room")
		n := len(refs())
		for _, k := range []int{0, 1, 2, n} {
			want, _ := sourced(refs()[:k], self, hash("x"), "name")
			if got, ok := path.Source(l[:k], self, hash("x"), "name"); !ok || got != want {
				t.Errorf("13.2: Source with spare room: %q %v", got, ok)
			}
		}
		path.Source(l[:n+1], self, hash("x"), "name")
		l[0], l[1] = l[1], l[0]
		path.Source(l[:n], self, hash("x"), "name")
		l[0], l[1] = l[1], l[0]
		if !slices.Equal(l, append(refs(), "spare", "room")) {
			t.Errorf("R3: refs that were handed in changed: %q", l)
		}
	}
}

// R4: beside a false there is nothing.
func TestNothingBesideFalse(t *testing.T) {
	for _, p := range append(wrongPaths(), rows()...) {
		if part, name, ok := path.Parse(p); !ok && (part != "" || name != "") {
			t.Errorf("R4: Parse of %q: %q %q", brief(p), part, name)
		}
		for _, c := range [][]string{{p}, {refs()[0], p}} {
			if got, ok := path.Source(c, false, hash("x"), "name"); ok || got != "" {
				t.Errorf("R4: Source of %q: %q", brief(p), got)
			}
		}
		if got, ok := path.Make("source", p, "name"); ok != (len(p) == 32) || !ok && got != "" {
			t.Errorf("R4: Make of a hash of %d bytes: %q", len(p), got)
		}
	}
}
