package info_test

import (
	"crypto/sha256"
	"encoding/base64"
	"fmt"
	"math"
	"math/big"
	"math/rand"
	"reflect"
	"regexp"
	"slices"
	"strconv"
	"strings"
	"testing"
	"unsafe"

	"shelfmark/api"
	"shelfmark/info"
	"shelfmark/sig"
)

// The chapter's words, told anew.

const (
	by32  = "0123456789abcdfghijklmnpqrsvwxyz"
	store = "/nix/store/"
)

var (
	pathForm = regexp.MustCompile(`\A/nix/store/[0-9abcdfghijklmnpqrsvwxyz]{32}-[A-Za-z0-9+_?=-][A-Za-z0-9+._?=-]{0,210}\z`)
	sigForm  = regexp.MustCompile(`\A[A-Za-z0-9._-]{1,64}:([A-Za-z0-9+/]{86}==)\z`)
	textForm = regexp.MustCompile(`\AStorePath: (.+)\nNarHash: sha256:(.{52})\nNarSize: (0|[1-9][0-9]{0,13})\nReferences:((?: [^ \n]+)*)\n((?:Sig: .+\n)*)\z`)
)

func isPath(s string) bool { return pathForm.MatchString(s) }

// isSig: of the last letter ahead of `==` no bit is left over.
func isSig(s string) bool {
	m := sigForm.FindStringSubmatch(s)
	if m == nil {
		return false
	}
	b, err := base64.StdEncoding.Strict().DecodeString(m[1])
	return err == nil && len(b) == 64
}

// rising: l has at most so many, each above the one ahead of it, and each is so.
func rising(l []string, most int, so func(string) bool) bool {
	if !slices.Equal(l, slices.Compact(slices.Sorted(slices.Values(l)))) {
		return false
	}
	return len(l) <= most && !slices.ContainsFunc(l, func(s string) bool { return !so(s) })
}

// may is May, as 14.1 says it.
func may(i api.Info) bool {
	size := i.Size >= 0 && i.Size <= 1024*1024*1024*1024
	return size && len(i.Hash) == 32 && isPath(i.Path) && rising(i.Refs, 64, isPath) && rising(i.Sigs, 8, isSig)
}

// letters is the 52 letters of a hash: it is a number, the lowest byte first, and
// they are its digits by 32.
func letters(h string) string {
	n := new(big.Int)
	for i := len(h) - 1; i >= 0; i-- {
		n.Lsh(n, 8).Add(n, big.NewInt(int64(h[i])))
	}
	l, digit := "", new(big.Int)
	for range 52 {
		n.DivMod(n, big.NewInt(32), digit)
		l = by32[digit.Int64():][:1] + l
	}
	return l
}

// hashOf is the hash of 52 letters.
func hashOf(l string) (string, bool) {
	n := new(big.Int)
	for _, c := range []byte(l) {
		digit := strings.IndexByte(by32, c)
		if digit < 0 {
			return "", false
		}
		n.Lsh(n, 5).Add(n, big.NewInt(int64(digit)))
	}
	if n.BitLen() > 256 {
		return "", false
	}
	b := n.FillBytes(make([]byte, 32))
	slices.Reverse(b)
	return string(b), true
}

// told is Text, as 14.2 says it.
func told(i api.Info) string {
	if !may(i) {
		return ""
	}
	s := fmt.Sprintf("StorePath: %s\nNarHash: sha256:%s\nNarSize: %d\nReferences:", i.Path, letters(i.Hash), i.Size)
	for _, ref := range i.Refs {
		s += " " + strings.Replace(ref, store, "", 1)
	}
	s += "\n"
	for _, x := range i.Sigs {
		s += "Sig: " + x + "\n"
	}
	return s
}

// parsed is Parse, as 14.2 says it.
func parsed(s string) (api.Info, bool) {
	m := textForm.FindStringSubmatch(s)
	if m == nil {
		return api.Info{}, false
	}
	i := api.Info{Path: m[1]}
	hash, ok := hashOf(m[2])
	i.Hash = hash
	i.Size, _ = strconv.Atoi(m[3])
	for _, ref := range strings.Split(m[4], " ")[1:] {
		i.Refs = append(i.Refs, store+ref)
	}
	for _, line := range strings.SplitAfter(m[5], "\n") {
		if line != "" {
			i.Sigs = append(i.Sigs, line[5:len(line)-1])
		}
	}
	if !ok || !may(i) {
		return api.Info{}, false
	}
	return i, true
}

// printed is Print, as 14.2 says it.
func printed(i api.Info) string {
	if !may(i) {
		return ""
	}
	s := fmt.Sprintf("1;%s;sha256:%s;%d;", i.Path, letters(i.Hash), i.Size)
	for k, ref := range i.Refs {
		if k > 0 {
			s += ","
		}
		s += ref
	}
	return s
}

// same is Same, as 14.2 says it: a nil list and an empty one are one.
func same(a, b api.Info) bool {
	for _, i := range []*api.Info{&a, &b} {
		i.Refs = append([]string{}, i.Refs...)
		i.Sigs = append([]string{}, i.Sigs...)
	}
	return reflect.DeepEqual(a, b)
}

// What is handed in.

const (
	one   = store + by32 + "-a"
	two   = store + "1123456789abcdfghijklmnpqrsvwxyz-b"
	three = store + "zyxwvsrqpnmlkjihgfdcba9876543210-name-1.2+x=?_"
)

func hash(s string) string {
	h := sha256.Sum256([]byte(s))
	return string(h[:])
}

func hashes() []string {
	return []string{
		hash(""), hash("x"), strings.Repeat("\x00", 32), strings.Repeat("\xff", 32), by32, strings.Repeat("\u00e4", 16), strings.Repeat("\n", 32), strings.Repeat(";", 32),
		strings.Repeat("\x00", 31) + "\x01", "\x01" + strings.Repeat("\x00", 31), strings.Repeat("\x00", 31) + "\x80",
	}
}

// manyPaths are n paths that rise; behind some the next goes on.
func manyPaths(n int) []string {
	var l []string
	for i := range n {
		p := store + by32[i/32%32:][:1] + by32[i%32:][:1] + by32[2:] + "-"
		l = append(l, p+"a", p+"aa")
	}
	return l[:n]
}

// longPaths are n paths that rise, as long as may be.
func longPaths(n int) []string {
	var l []string
	for i := range n {
		l = append(l, store+by32[i/32%32:][:1]+by32[i%32:][:1]+by32[2:]+"-"+strings.Repeat("n", 211))
	}
	return l
}

// sigs are n signatures that rise.
func sigs(n int) []string {
	var l []string
	for i := range n {
		l = append(l, sig.Text(fmt.Sprintf("key-%02d", i), strings.Repeat(string(rune('a'+i)), 64)))
	}
	return l
}

// longSigs are n signatures that rise, as long as may be.
func longSigs(n int) []string {
	var l []string
	for i := range n {
		l = append(l, sig.Text(strings.Repeat(string(rune('a'+i)), 64), strings.Repeat("\xff", 64)))
	}
	return l
}

// full is one of which each field is as great as may be.
func full() api.Info {
	return api.Info{Path: longPaths(1)[0], Hash: strings.Repeat("\xff", 32), Size: 1 << 40, Refs: longPaths(64), Sigs: longSigs(8)}
}

// made is one with some of all.
func made() api.Info {
	return api.Info{Path: one, Hash: hash("x"), Size: 120, Refs: []string{one, two, three}, Sigs: sigs(2)}
}

func sizes() []int {
	return []int{0, 1, 2, 9, 10, 99, 100, 120, 1024, 1<<31 - 1, 1 << 31, 1<<32 + 1, 1<<40 - 1, 1 << 40}
}

// infos are some that may be.
func infos() []api.Info {
	l := []api.Info{made(), full(), {Path: one, Hash: hash("")}, {Path: one, Hash: hash(""), Refs: []string{}, Sigs: []string{}}}
	for _, h := range hashes() {
		l = append(l, api.Info{Path: two, Hash: h, Size: 1, Sigs: sigs(1)})
	}
	for _, size := range sizes() {
		l = append(l, api.Info{Path: three, Hash: hash("y"), Size: size, Refs: []string{two}})
	}
	for n := range 65 {
		l = append(l, api.Info{Path: one, Hash: hash("z"), Size: n, Refs: manyPaths(n)}, api.Info{Path: one, Hash: hash("z"), Size: n, Refs: longPaths(n), Sigs: sigs(n % 9)})
	}
	for n := range 9 {
		l = append(l, api.Info{Path: two, Hash: hash("v"), Sigs: sigs(n)}, api.Info{Path: one, Hash: hash("v"), Refs: []string{one}, Sigs: longSigs(n)})
	}
	for _, p := range append(manyPaths(100), longPaths(100)...) {
		l = append(l, api.Info{Path: p, Hash: hash("w"), Size: 7, Refs: []string{p}, Sigs: longSigs(1)})
	}
	return l
}

func wrongPaths() []string {
	return []string{
		"", "/", "/nix/store", store, store + by32, store + by32 + "-", store + by32[1:] + "-a", store + by32 + "0-a", store + by32 + "a", store + by32 + "--" + "/", by32 + "-a", "nix/store/" + by32 + "-a",
		"/nix/store" + by32 + "-a", "//nix/store/" + by32 + "-a", "/nix/store//" + by32 + "-a", "/nix/stores/" + by32 + "-a", "/Nix/store/" + by32 + "-a", store + "e" + by32[1:] + "-a", store + strings.ToUpper(by32) + "-a",
		store + by32 + "-.a", store + by32 + "-a b", store + by32 + "-a/b", store + by32 + "-a\n", store + by32 + "-a,b", store + by32 + "-a;b", store + by32 + "-a:b", store + by32 + "-\u00e4", store + by32 + "-\xff", store + by32 + "-\x00",
		store + by32 + "-" + strings.Repeat("n", 212), " " + one, one + " ", one + "\r", one + "\n" + two, one + " " + two, "a", "\x00", "\xff", strings.Repeat("/nix/store/", 20),
	}
}

func wrongSigs() []string {
	good := sigs(1)[0]
	_, l, _ := strings.Cut(good, ":")
	return []string{
		"", ":", "k", "k:", ":" + l, l, "k" + l, "k::" + l, "k: " + l, " k:" + l, "k :" + l, "k:" + l + " ", "k:" + l + "\n", "k:" + l + "=", "k:" + l[1:], "k:" + l[:87], "k:" + l[:86], "k:A" + l, "k:" + l + l, "k:" + l + ":", "k/:" + l, "k,:" + l,
		"\u00e4:" + l, "\xff:" + l, "k\n:" + l, strings.Repeat("k", 65) + ":" + l, "k:" + l[:85] + "B==", "k:" + l[:85] + "-==", "k:" + strings.Repeat("A", 88), "k:" + base64.StdEncoding.EncodeToString([]byte(strings.Repeat("s", 63))),
		"k:" + base64.StdEncoding.EncodeToString([]byte(strings.Repeat("s", 65))), "k;" + l, "\x00", "\xff", good + good, good + "\nSig: " + good,
	}
}

// turned is made with something else in it.
func turned(do func(*api.Info)) api.Info {
	i := made()
	do(&i)
	return i
}

// others are some that may not be, each for one thing alone.
func others() []api.Info {
	var l []api.Info
	add := func(do func(*api.Info)) { l = append(l, turned(do)) }
	for _, p := range wrongPaths() {
		add(func(i *api.Info) { i.Path = p })
		for k := range 4 {
			add(func(i *api.Info) { i.Refs = slices.Insert(i.Refs, k, p) })
			add(func(i *api.Info) { i.Refs = slices.Sorted(slices.Values(append(i.Refs, p))) })
		}
		add(func(i *api.Info) { i.Refs = []string{p} })
	}
	for _, s := range wrongSigs() {
		for k := range 3 {
			add(func(i *api.Info) { i.Sigs = slices.Insert(i.Sigs, k, s) })
			add(func(i *api.Info) { i.Sigs = slices.Sorted(slices.Values(append(i.Sigs, s))) })
		}
		add(func(i *api.Info) { i.Sigs = []string{s} })
	}
	for n := range 100 {
		if n != 32 {
			add(func(i *api.Info) { i.Hash = strings.Repeat("h", n) })
		}
	}
	for _, size := range []int{-1, -2, -120, math.MinInt, math.MinInt32, 1<<40 + 1, 1<<40 + 2, 1 << 41, math.MaxInt, -1 << 40} {
		add(func(i *api.Info) { i.Size = size })
	}
	for _, n := range []int{65, 66, 100, 128, 1000} {
		add(func(i *api.Info) { i.Refs = manyPaths(n) })
	}
	for _, n := range []int{9, 10, 16} {
		add(func(i *api.Info) { i.Sigs = sigs(n) })
	}
	return append(l, unordered()...)
}

// unordered are some of which the refs, or the signatures, do not rise.
func unordered() []api.Info {
	var l []api.Info
	for _, n := range []int{2, 3, 8} {
		for i := range n {
			for k := range i + 1 {
				refs, marks := manyPaths(n), sigs(n)
				refs[i], refs[k] = refs[k], refs[i]
				marks[i], marks[k] = marks[k], marks[i]
				if i == k {
					refs[i] = refs[(i+1)%n]
					marks[i] = marks[(i+1)%n]
				}
				l = append(l, turned(func(i *api.Info) { i.Refs = refs }), turned(func(i *api.Info) { i.Sigs = marks }))
			}
		}
	}
	return l
}

func brief(s string) string {
	if len(s) > 400 {
		return s[:400] + ".."
	}
	return s
}

// show is i for a message.
func show(i api.Info) string {
	return brief(fmt.Sprintf("{%q %x %d %q %q}", i.Path, i.Hash, i.Size, i.Refs, i.Sigs))
}

func wantMay(t *testing.T, i api.Info, want bool) {
	t.Helper()
	if may(i) != want {
		t.Errorf("the test's own: it may be: %v: %s", !want, show(i))
	}
	if got := info.May(i); got != want {
		t.Errorf("14.1: May of %s, %d refs, %d signatures: %v", show(i), len(i.Refs), len(i.Sigs), got)
	}
}

func wantText(t *testing.T, i api.Info) {
	t.Helper()
	if got, want := info.Text(i), told(i); got != want {
		t.Errorf("14.2: Text of %s: %q, want %q", show(i), brief(got), brief(want))
	}
}

func wantPrint(t *testing.T, i api.Info) {
	t.Helper()
	if got, want := info.Print(i), printed(i); got != want {
		t.Errorf("14.2: Print of %s: %q, want %q", show(i), brief(got), brief(want))
	}
}

func wantParse(t *testing.T, s string) {
	t.Helper()
	want, ok := parsed(s)
	if got, may := info.Parse(s); may != ok || !same(got, want) {
		t.Errorf("14.2: Parse of %q: %s %v, want %s %v", brief(s), show(got), may, show(want), ok)
	}
}

// wantNone: s is the Text of nothing.
func wantNone(t *testing.T, s string) {
	t.Helper()
	wantParse(t, s)
	if got, ok := info.Parse(s); ok || !same(got, api.Info{}) {
		t.Errorf("14.2, R4: Parse of %q: %s %v", brief(s), show(got), ok)
	}
}

func wantSame(t *testing.T, a, b api.Info, want bool) {
	t.Helper()
	if info.Same(a, b) != want || info.Same(b, a) != want || same(a, b) != want {
		t.Errorf("14.2: Same of %s and %s: %v, %v", show(a), show(b), info.Same(a, b), info.Same(b, a))
	}
}

// 14.1

func TestMay(t *testing.T) {
	for _, i := range infos() {
		wantMay(t, i, true)
	}
	for _, i := range others() {
		wantMay(t, i, false)
	}
	wantMay(t, api.Info{}, false)
}

func TestMayOfHashes(t *testing.T) {
	for n := range 300 {
		for _, c := range []string{"\x00", "h", "\xff"} {
			wantMay(t, api.Info{Path: one, Hash: strings.Repeat(c, n)}, n == 32)
		}
	}
	wantMay(t, api.Info{Path: one, Hash: letters(hash("x"))}, false)
	wantMay(t, api.Info{Path: one, Hash: strings.Repeat("\u00e4", 32)}, false)
}

func TestMayOfSizes(t *testing.T) {
	for _, size := range []int{-1 << 40, -2, -1, 0, 1, 2, 1<<40 - 1, 1 << 40, 1<<40 + 1, 1<<40 + 2, math.MaxInt, math.MinInt} {
		wantMay(t, turned(func(i *api.Info) { i.Size = size }), size >= 0 && size <= 1<<40)
	}
	for k := range 63 {
		wantMay(t, turned(func(i *api.Info) { i.Size = 1 << k }), k <= 40)
		wantMay(t, turned(func(i *api.Info) { i.Size = 1<<k - 1 }), k <= 40)
		wantMay(t, turned(func(i *api.Info) { i.Size = -1 << k }), false)
	}
}

func TestMayOfHowMany(t *testing.T) {
	for n := range 200 {
		wantMay(t, turned(func(i *api.Info) { i.Refs = manyPaths(n) }), n <= 64)
		wantMay(t, turned(func(i *api.Info) { i.Refs = longPaths(n) }), n <= 64)
	}
	for n := range 26 {
		wantMay(t, turned(func(i *api.Info) { i.Sigs = sigs(n) }), n <= 8)
		wantMay(t, turned(func(i *api.Info) { i.Sigs = longSigs(n) }), n <= 8)
	}
	wantMay(t, turned(func(i *api.Info) { i.Refs, i.Sigs = manyPaths(64), sigs(8) }), true)
	wantMay(t, turned(func(i *api.Info) { i.Refs, i.Sigs = manyPaths(64), sigs(9) }), false)
	wantMay(t, turned(func(i *api.Info) { i.Refs, i.Sigs = manyPaths(65), sigs(8) }), false)
	wantMay(t, turned(func(i *api.Info) { i.Refs, i.Sigs = nil, nil }), true)
	wantMay(t, turned(func(i *api.Info) { i.Refs, i.Sigs = []string{}, []string{} }), true)
}

// Byte by byte: great letters are below small ones, and a text is below those that
// go on behind it.
func TestMayOfOrder(t *testing.T) {
	p := store + by32 + "-"
	refs := []string{p + "+", p + "--", p + "-0", p + "=", p + "A", p + "Z", p + "_", p + "a", p + "a-", p + "a0", p + "aA", p + "aa", p + "b", two, store + "1" + by32[:31] + "-A"}
	slices.Sort(refs)
	var marks []string
	for _, name := range []string{"-", "--", ".", "9", "A", "Z", "_", "a", "a-", "aA", "aa", "b"} {
		marks = append(marks, sig.Text(name, strings.Repeat("s", 64)))
	}
	for _, c := range "AZaz09" {
		marks = append(marks, sig.Text("k", strings.Repeat(string(c), 64)))
	}
	slices.Sort(marks)
	for i, a := range refs {
		for k, b := range refs {
			wantMay(t, turned(func(x *api.Info) { x.Refs = []string{a, b} }), i < k)
		}
	}
	for i, a := range marks {
		for k, b := range marks {
			wantMay(t, turned(func(x *api.Info) { x.Sigs = []string{a, b} }), i < k)
		}
	}
}

// Of whom it is, or what it refers to, nothing is asked but that it is a path.
func TestMayOfItself(t *testing.T) {
	for _, refs := range [][]string{{one}, {two}, {one, two}, nil} {
		for _, p := range []string{one, two, three} {
			wantMay(t, turned(func(i *api.Info) { i.Path, i.Refs = p, refs }), true)
		}
	}
}

// 14.2: Text

func TestText(t *testing.T) {
	h := strings.Repeat("\x00", 31) + "\x80"
	l := letters(h)
	if l != "1"+strings.Repeat("0", 51) {
		t.Fatal("the test's own: letters", l)
	}
	s := sigs(2)
	for _, c := range []struct {
		i    api.Info
		want string
	}{
		{api.Info{Path: one, Hash: h}, "StorePath: /nix/store/0123456789abcdfghijklmnpqrsvwxyz-a\nNarHash: sha256:" + l + "\nNarSize: 0\nReferences:\n"},
		{api.Info{Path: two, Hash: h, Size: 1 << 40}, "StorePath: " + two + "\nNarHash: sha256:" + l + "\nNarSize: 1099511627776\nReferences:\n"},
		{api.Info{Path: two, Hash: h, Size: 1, Refs: []string{one}}, "StorePath: " + two + "\nNarHash: sha256:" + l + "\nNarSize: 1\nReferences: 0123456789abcdfghijklmnpqrsvwxyz-a\n"},
		{api.Info{Path: two, Hash: h, Size: 20, Refs: []string{one, two}}, "StorePath: " + two + "\nNarHash: sha256:" + l + "\nNarSize: 20\nReferences: " + one[11:] + " " + two[11:] + "\n"},
		{api.Info{Path: one, Hash: h, Size: 20, Sigs: s[:1]}, "StorePath: " + one + "\nNarHash: sha256:" + l + "\nNarSize: 20\nReferences:\nSig: " + s[0] + "\n"},
		{api.Info{Path: one, Hash: h, Size: 20, Sigs: s}, "StorePath: " + one + "\nNarHash: sha256:" + l + "\nNarSize: 20\nReferences:\nSig: " + s[0] + "\nSig: " + s[1] + "\n"},
		{api.Info{Path: one, Hash: h, Size: 20, Refs: []string{three}, Sigs: s}, "StorePath: " + one + "\nNarHash: sha256:" + l + "\nNarSize: 20\nReferences: " + three[11:] + "\nSig: " + s[0] + "\nSig: " + s[1] + "\n"},
	} {
		if got := info.Text(c.i); got != c.want {
			t.Errorf("14.2: Text: %q, want %q", got, c.want)
		}
		wantText(t, c.i)
		wantParse(t, c.want)
	}
}

// A hash that is known: that of no bytes, as it is written by 32.
func TestTextOfAKnownHash(t *testing.T) {
	const l = "0mdqa9w1p6cmli6976v4wi0sw9r4p5prkj7lzfd1877wk11c9c73"
	i := api.Info{Path: one, Hash: hash("")}
	if got := info.Text(i); got != "StorePath: "+one+"\nNarHash: sha256:"+l+"\nNarSize: 0\nReferences:\n" {
		t.Errorf("14.2: Text of a known hash: %q", got)
	}
	if got := info.Print(i); got != "1;"+one+";sha256:"+l+";0;" {
		t.Errorf("14.2: Print of a known hash: %q", got)
	}
}

func TestTextOfEach(t *testing.T) {
	seen := map[string]int{}
	for k, i := range infos() {
		wantText(t, i)
		s := info.Text(i)
		if s == "" {
			t.Errorf("14.2: Text of what may be, %d: nothing", k)
		}
		if earlier, ok := seen[s]; ok && !same(i, infos()[earlier]) {
			t.Errorf("14.2: one Text of %d and %d", earlier, k)
		}
		seen[s] = k
	}
}

// R4: what no sentence gives a value is its zero value.
func TestTextAndPrintOfOthers(t *testing.T) {
	for _, i := range append(others(), api.Info{}) {
		if got := info.Text(i); got != "" {
			t.Errorf("R4: Text of what may not be, %s: %q", show(i), brief(got))
		}
		if got := info.Print(i); got != "" {
			t.Errorf("R4: Print of what may not be, %s: %q", show(i), brief(got))
		}
	}
}

// 14.2: Print

func TestPrint(t *testing.T) {
	h := strings.Repeat("\x00", 32)
	l := strings.Repeat("0", 52)
	for _, c := range []struct {
		i    api.Info
		want string
	}{
		{api.Info{Path: one, Hash: h}, "1;/nix/store/0123456789abcdfghijklmnpqrsvwxyz-a;sha256:" + l + ";0;"},
		{api.Info{Path: one, Hash: h, Size: 1 << 40}, "1;" + one + ";sha256:" + l + ";1099511627776;"},
		{api.Info{Path: one, Hash: h, Size: 5, Refs: []string{one}}, "1;" + one + ";sha256:" + l + ";5;" + one},
		{api.Info{Path: one, Hash: h, Size: 5, Refs: []string{one, two}}, "1;" + one + ";sha256:" + l + ";5;" + one + "," + two},
		{api.Info{Path: two, Hash: h, Size: 5, Refs: []string{one, two, three}, Sigs: sigs(3)}, "1;" + two + ";sha256:" + l + ";5;" + one + "," + two + "," + three},
	} {
		if got := info.Print(c.i); got != c.want {
			t.Errorf("14.2: Print: %q, want %q", got, c.want)
		}
		wantPrint(t, c.i)
	}
	for _, i := range infos() {
		wantPrint(t, i)
		if info.Print(i) == "" {
			t.Errorf("14.2: Print of what may be: nothing: %s", show(i))
		}
	}
}

// variants are made, and those that differ from it in one field alone.
func variants() []api.Info {
	return []api.Info{
		made(),
		turned(func(i *api.Info) { i.Path = two }),
		turned(func(i *api.Info) { i.Path = one + "a" }),
		turned(func(i *api.Info) { i.Hash = hash("y") }),
		turned(func(i *api.Info) { i.Hash = i.Hash[:31] + "!" }),
		turned(func(i *api.Info) { i.Size = 121 }),
		turned(func(i *api.Info) { i.Size = 0 }),
		turned(func(i *api.Info) { i.Size = 1 << 40 }),
		turned(func(i *api.Info) { i.Refs = nil }),
		turned(func(i *api.Info) { i.Refs = i.Refs[:1] }),
		turned(func(i *api.Info) { i.Refs = i.Refs[1:] }),
		turned(func(i *api.Info) { i.Refs = i.Refs[:2] }),
		turned(func(i *api.Info) { i.Refs = append(i.Refs, three+"a") }),
		turned(func(i *api.Info) { i.Refs[1] += "b" }),
	}
}

func TestPrintTellsThemApart(t *testing.T) {
	for k, a := range variants() {
		for n, b := range variants() {
			if (info.Print(a) == info.Print(b)) != (k == n) || (info.Text(a) == info.Text(b)) != (k == n) {
				t.Errorf("14.2: Print or Text of variants %d and %d", k, n)
			}
			wantSame(t, a, b, k == n)
		}
	}
}

// Signatures are of what Print tells, so that they are not in it.
func TestPrintHangsOnNoSignatures(t *testing.T) {
	want := info.Print(made())
	for n := range 9 {
		for _, l := range [][]string{sigs(n), longSigs(n)} {
			i := turned(func(i *api.Info) { i.Sigs = l })
			if got := info.Print(i); got != want {
				t.Errorf("14.2: Print with %d signatures: %q", n, got)
			}
		}
	}
}

// 14.2: Parse

func TestParse(t *testing.T) {
	for _, i := range infos() {
		wantParse(t, told(i))
		if got, ok := info.Parse(told(i)); !ok || !same(got, i) {
			t.Errorf("14.2: Parse of the Text of %s: %s %v", show(i), show(got), ok)
		}
	}
	wantNone(t, "")
}

// looseText is Text, whether i may be or not.
func looseText(i api.Info) string {
	s := fmt.Sprintf("StorePath: %s\nNarHash: sha256:%s\nNarSize: %d\nReferences:", i.Path, letters(i.Hash), i.Size)
	for _, ref := range i.Refs {
		s += " " + strings.TrimPrefix(ref, store)
	}
	s += "\n"
	for _, x := range i.Sigs {
		s += "Sig: " + x + "\n"
	}
	return s
}

func TestParseOfWhatMayNotBe(t *testing.T) {
	for _, i := range others() {
		wantParse(t, looseText(i))
	}
	for _, i := range unordered() {
		wantNone(t, looseText(i))
	}
	for _, size := range []int{-1, 1<<40 + 1, math.MinInt, math.MaxInt} {
		wantNone(t, looseText(turned(func(i *api.Info) { i.Size = size })))
	}
	wantNone(t, looseText(turned(func(i *api.Info) { i.Refs = manyPaths(65) })))
	wantNone(t, looseText(turned(func(i *api.Info) { i.Refs = manyPaths(1000) })))
	wantNone(t, looseText(turned(func(i *api.Info) { i.Sigs = sigs(9) })))
	wantNone(t, looseText(turned(func(i *api.Info) { i.Path = "/nix/store" })))
}

// lines are those of a text, each with its line end.
func lines(s string) []string {
	l := strings.SplitAfter(s, "\n")
	return l[:len(l)-1]
}

// Lines that are gone, come twice, stand elsewhere.
func TestParseOfLinesElsewhere(t *testing.T) {
	all := lines(told(made()))
	if len(all) != 6 {
		t.Fatal("the test's own: lines", len(all))
	}
	for i := range all {
		gone := strings.Join(slices.Delete(slices.Clone(all), i, i+1), "")
		if wantParse(t, gone); i < 4 {
			wantNone(t, gone)
		}
		for k := range len(all) + 1 {
			wantNone(t, strings.Join(slices.Insert(slices.Clone(all), k, all[i]), ""))
			moved := slices.Insert(slices.Delete(slices.Clone(all), i, i+1), min(k, len(all)-1), all[i])
			if !slices.Equal(moved, all) {
				wantNone(t, strings.Join(moved, ""))
			}
			wantParse(t, strings.Join(all[min(i, k):k], ""))
			for _, line := range []string{"\n", " \n", "\r\n", "x\n", "X: y\n", "Deriver: \n", "Sig: \n", "References:\n", "\x00\n", "#\n"} {
				wantNone(t, strings.Join(slices.Insert(slices.Clone(all), k, line), ""))
			}
		}
		for k := range i {
			wantNone(t, strings.Join(all[:k], "")+strings.Join(all[i:], "")+all[k])
		}
	}
	slices.Reverse(all)
	wantNone(t, strings.Join(all, ""))
	wantNone(t, told(made())+told(made()))
}

// Signs between words: each text with one thing in it for another.
func TestParseOfOtherSigns(t *testing.T) {
	s := told(made())
	for _, c := range [][2]string{
		{"StorePath", "storePath"}, {"StorePath", "STOREPATH"}, {"StorePath", "Path"}, {"StorePath:", "StorePath"}, {"StorePath:", "StorePath :"}, {"StorePath:", "StorePath="}, {"StorePath: ", "StorePath:"}, {"StorePath: ", "StorePath:  "}, {"StorePath: ", "StorePath:\t"},
		{"StorePath: ", ""}, {"StorePath: " + store, "StorePath: "}, {"StorePath:", "NarHash:"}, {"StorePath:", "URL:"},
		{"NarHash", "narHash"}, {"NarHash", "FileHash"}, {"NarHash: ", "NarHash:"}, {"NarHash: ", "NarHash:  "}, {"NarHash: ", ""}, {"NarHash:", "NarSize:"},
		{"sha256:", ""}, {"sha256:", "sha256"}, {"sha256:", "sha256-"}, {"sha256:", "sha256: "}, {"sha256:", "SHA256:"}, {"sha256:", "sha512:"}, {"sha256:", "md5:"}, {"sha256:", "sha256:sha256:"}, {"sha256:", " sha256:"}, {"sha256:", ":"},
		{"NarSize", "narSize"}, {"NarSize", "FileSize"}, {"NarSize: ", "NarSize:"}, {"NarSize: ", "NarSize:  "}, {"NarSize: ", ""},
		{"120", ""}, {"120", "0120"}, {"120", "00"}, {"120", "+120"}, {"120", "-120"}, {"120", "-0"}, {"120", "+0"}, {"120", " 120"}, {"120", "120 "}, {"120", "12x"}, {"120", "x"}, {"120", "0x78"}, {"120", "0b1"}, {"120", "0o170"}, {"120", "1_20"}, {"120", "1e2"}, {"120", "120.0"}, {"120", "1,20"},
		{"120", "1099511627777"}, {"120", "9223372036854775807"}, {"120", "9223372036854775808"}, {"120", "18446744073709551736"}, {"120", "-9223372036854775808"}, {"120", "340282366920938463463374607431768211576"}, {"120", strings.Repeat("9", 1000)}, {"120", "\u0661"}, {"120", "12\x000"}, {"120", "1 20"},
		{"References:", "references:"}, {"References:", "References"}, {"References: ", "References:  "}, {"References: ", "References:"}, {"References:", "References :"}, {"References: ", "References:\t"}, {"References: ", ""}, {"References: ", "References: " + store},
		{" " + two[11:], "  " + two[11:]}, {" " + two[11:], "\t" + two[11:]}, {" " + two[11:], "," + two[11:]}, {" " + two[11:], " " + two}, {" " + two[11:], "\u00a0" + two[11:]}, {" " + two[11:], " " + two[11:] + " " + two[11:]}, {" " + two[11:], "\n" + two[11:]},
		{three[11:] + "\n", three[11:] + " \n"}, {three[11:] + "\n", three[11:] + "\r\n"}, {three[11:] + "\n", three[11:]}, {three[11:], "bad"}, {three[11:], ""},
		{"Sig: key-00", "sig: key-00"}, {"Sig: key-00", "Sig:key-00"}, {"Sig: key-00", "Sig:  key-00"}, {"Sig: key-00", "key-00"}, {"Sig: key-00", "Sig key-00"}, {"Sig: key-00", " Sig: key-00"}, {"key-00:", "key-00"}, {"key-00:", "key-00: "}, {"key-00:", "key-02:"}, {"key-00:", "key-1:"},
		{"Sig: key-01", " key-01"}, {"Sig: key-01", "Sigs: key-01"}, {"Sig: key-01", "Sig: Sig: key-01"}, {"\nSig: key-01", " Sig: key-01"}, {"\nSig: key-01", "\n\nSig: key-01"}, {"\nSig: key-01", "key-01"}, {"\nSig: key-01", " key-01"},
	} {
		x := strings.Replace(s, c[0], c[1], 1)
		if x == s {
			t.Errorf("the test's own: %q stands nowhere", c[0])
		}
		wantNone(t, x)
	}
	for _, x := range []string{s[:len(s)-1], s + "\n", "\n" + s, " " + s, s + " ", s + "\x00", "\x00" + s, "\ufeff" + s, strings.ReplaceAll(s, "\n", "\r\n"), strings.ReplaceAll(s, "\n", "\r"), strings.ReplaceAll(s, "\n", ""), strings.ReplaceAll(s, "\n", "\n\n"), strings.ToLower(s), strings.ToUpper(s), s[1:]} {
		wantNone(t, x)
	}
}

// No refs: nothing but the word stands in their line.
func TestParseOfNoRefs(t *testing.T) {
	s := told(api.Info{Path: one, Hash: hash("x")})
	if i, ok := info.Parse(s); !ok || len(i.Refs) != 0 || len(i.Sigs) != 0 {
		t.Errorf("14.2: Parse of no refs: %s %v", show(i), ok)
	}
	for _, line := range []string{"References: \n", "References:  \n", "References\n", "References: none\n", "References:\t\n", "References:", "\n", ""} {
		wantNone(t, strings.Replace(s, "References:\n", line, 1))
	}
}

// Letters of a hash that are others, too few, too many.
func TestParseOfHashes(t *testing.T) {
	text := func(l string) string {
		return "StorePath: " + one + "\nNarHash: sha256:" + l + "\nNarSize: 0\nReferences:\n"
	}
	good := letters(hash("x"))
	for _, h := range hashes() {
		if i, ok := info.Parse(text(letters(h))); !ok || i.Hash != h {
			t.Errorf("14.2: Parse of the hash %x: %x %v", h, i.Hash, ok)
		}
	}
	for c := range 256 {
		for k := range 52 {
			x := good[:k] + string([]byte{byte(c)}) + good[k+1:]
			wantParse(t, text(x))
			if _, ok := info.Parse(text(x)); ok && strings.IndexByte(by32, byte(c)) < 0 {
				t.Errorf("14.2: Parse of the letter %q at %d", rune(c), k)
			}
		}
	}
	// Of 52 letters there are 4 bits more than of 32 bytes.
	for k, c := range by32 {
		x := string(c) + strings.Repeat("0", 51)
		wantParse(t, text(x))
		if _, ok := info.Parse(text(x)); ok != (k < 2) {
			t.Errorf("14.2: Parse of the hash %s: %v", x, ok)
		}
	}
	for n := range 120 {
		x := strings.Repeat("0", n)
		if _, ok := info.Parse(text(x)); ok != (n == 52) {
			t.Errorf("14.2: Parse of a hash of %d letters: %v", n, ok)
		}
		wantParse(t, text(x))
	}
	for _, x := range []string{good[1:], good[:51], "0" + good, good + "0", strings.ToUpper(good), fmt.Sprintf("%x", hash("x")), base64.StdEncoding.EncodeToString([]byte(hash("x"))), good + " ", good + good, hash("x")} {
		wantNone(t, text(x))
	}
}

// Each byte turned, gone, come twice; each beginning.
func TestParseOfBytesTurned(t *testing.T) {
	s := told(turned(func(i *api.Info) { i.Refs, i.Sigs = i.Refs[:2], i.Sigs[:1] }))
	for k := range s {
		for _, c := range "\x00\n\r :,;-.09aezAZ=/+\x7f" {
			wantParse(t, s[:k]+string(c)+s[k+1:])
			wantParse(t, s[:k]+string(c)+s[k:])
		}
		for bit := range 8 {
			wantParse(t, s[:k]+string([]byte{s[k] ^ 1<<bit})+s[k+1:])
		}
		wantParse(t, s[:k]+s[k+1:])
		wantParse(t, s[:k])
		wantParse(t, s[k+1:])
		wantParse(t, s[:k]+"\xff"+s[k+1:])
		wantParse(t, s[:k]+s[k:k+1]+s[k:])
	}
}

// 14.2: Same

func TestSame(t *testing.T) {
	l := infos()[:60]
	for _, a := range l {
		for _, b := range l {
			wantSame(t, a, b, same(a, b))
		}
	}
	// The two behind full differ in whether there are lists of nothing.
	wantSame(t, l[2], l[3], true)
	for _, i := range append(infos(), others()...) {
		b := i
		b.Refs, b.Sigs = slices.Clone(i.Refs), slices.Clone(i.Sigs)
		wantSame(t, i, b, true)
		wantSame(t, i, api.Info{}, false)
	}
}

func TestSameOfListsOfNothing(t *testing.T) {
	none, empty := []string(nil), make([]string, 0, 5)
	for _, refs := range [][]string{none, empty, {}} {
		for _, marks := range [][]string{none, empty, {}} {
			wantSame(t, api.Info{}, api.Info{Refs: refs, Sigs: marks}, true)
			wantSame(t, api.Info{Path: one, Refs: none, Sigs: empty}, api.Info{Path: one, Refs: refs, Sigs: marks}, true)
			wantSame(t, turned(func(i *api.Info) { i.Refs, i.Sigs = empty, none }), turned(func(i *api.Info) { i.Refs, i.Sigs = refs, marks }), true)
			wantSame(t, api.Info{Refs: []string{""}}, api.Info{Refs: refs, Sigs: marks}, false)
			wantSame(t, api.Info{Sigs: []string{""}}, api.Info{Refs: refs, Sigs: marks}, false)
		}
	}
}

// In one field alone, in number and in order; also of what may not be.
func TestSameInOneField(t *testing.T) {
	l := []api.Info{
		{}, {Path: "a"}, {Path: "b"}, {Path: "A"}, {Path: "a\x00"}, {Hash: "a"}, {Hash: "b"}, {Size: 1}, {Size: -1}, {Size: math.MinInt}, {Size: math.MaxInt}, {Size: 1 << 32},
		{Refs: []string{""}}, {Refs: []string{"", ""}}, {Refs: []string{"a"}}, {Refs: []string{"b"}}, {Refs: []string{"a", "b"}}, {Refs: []string{"b", "a"}}, {Refs: []string{"a", "a"}}, {Refs: []string{"ab"}}, {Refs: []string{"ab", ""}}, {Refs: []string{"", "ab"}}, {Refs: []string{"a,b"}}, {Refs: []string{"a b"}},
		{Refs: []string{"a", "b", "c"}}, {Refs: []string{"a", "c", "b"}}, {Refs: []string{"b", "c"}},
		{Sigs: []string{""}}, {Sigs: []string{"", ""}}, {Sigs: []string{"a"}}, {Sigs: []string{"b"}}, {Sigs: []string{"a", "b"}}, {Sigs: []string{"b", "a"}}, {Sigs: []string{"a", "a"}}, {Sigs: []string{"ab"}}, {Sigs: []string{"a\nb"}}, {Sigs: []string{"a\nSig: b"}},
		{Sigs: []string{"a", "b", "c"}}, {Sigs: []string{"a", "c", "b"}}, {Refs: []string{"a"}, Sigs: []string{"a"}}, {Refs: []string{"a"}, Sigs: []string{"b"}}, {Refs: []string{"b"}, Sigs: []string{"a"}}, {Path: "a", Hash: "a"}, {Path: "a", Hash: "a", Size: 1},
	}
	for k, a := range l {
		for n, b := range l {
			wantSame(t, a, b, k == n)
		}
	}
	for n := range 9 {
		for k := range 9 {
			wantSame(t, turned(func(i *api.Info) { i.Sigs = sigs(n) }), turned(func(i *api.Info) { i.Sigs = sigs(k) }), n == k)
			wantSame(t, turned(func(i *api.Info) { i.Refs = manyPaths(n) }), turned(func(i *api.Info) { i.Refs = manyPaths(k) }), n == k)
		}
	}
}

// 14.3

// some is one that may be, made by r.
func some(r *rand.Rand) api.Info {
	text := func(set string, n int) string {
		b := make([]byte, n)
		for i := range b {
			b[i] = set[r.Intn(len(set))]
		}
		return string(b)
	}
	aPath := func() string {
		return store + text(by32, 32) + "-" + text("abcZ09-+_?=", 1) + text("abcZ09-+_?=.", r.Intn(211))
	}
	i := api.Info{Path: aPath(), Hash: hash(text("ab", 20)), Size: r.Intn(1<<40+1) >> r.Intn(41)}
	for range r.Intn(65) >> r.Intn(7) {
		i.Refs = append(i.Refs, aPath())
	}
	if r.Intn(3) == 0 && len(i.Refs) < 64 {
		i.Refs = append(i.Refs, i.Path)
	}
	for range r.Intn(9) >> r.Intn(4) {
		i.Sigs = append(i.Sigs, sig.Text(text("abcZ09-._", 1+r.Intn(64)), hash(text("ab", 20))+hash(text("ab", 20))))
	}
	slices.Sort(i.Refs)
	slices.Sort(i.Sigs)
	return i
}

func TestParseOfTextIsWhatItWas(t *testing.T) {
	r := rand.New(rand.NewSource(1))
	l := infos()
	for range 1000 {
		l = append(l, some(r))
	}
	for _, i := range l {
		wantMay(t, i, true)
		wantText(t, i)
		wantPrint(t, i)
		got, ok := info.Parse(info.Text(i))
		if !ok || !same(got, i) || !info.Same(got, i) || info.Text(got) != info.Text(i) || info.Print(got) != info.Print(i) {
			t.Errorf("14.3: Parse of Text of %s: %s %v", show(i), show(got), ok)
		}
	}
}

// What Parse tells has just the text that it was read from.
func TestTextOfParseIsWhatItWas(t *testing.T) {
	r, n := rand.New(rand.NewSource(2)), 0
	for range 5000 {
		s := told(some(r))
		for range 1 + r.Intn(2) {
			k := r.Intn(len(s))
			switch r.Intn(3) {
			case 0:
				s = s[:k] + string([]byte{"0123456789abAB-. \n"[r.Intn(18)]}) + s[k+1:]
			case 1:
				s = s[:k] + s[k+1:]
			case 2:
				s = s[:k] + string([]byte{"0123456789abAB-. \n"[r.Intn(18)]}) + s[k:]
			}
		}
		wantParse(t, s)
		if i, ok := info.Parse(s); ok {
			if n++; info.Text(i) != s || !info.May(i) {
				t.Errorf("14.3: Text of Parse of %q: %q", brief(s), brief(info.Text(i)))
			}
		}
	}
	if n < 100 {
		t.Error("the test's own: too few texts that are some Info's:", n)
	}
}

// Rules of all calls

// R1
func TestNothingPanics(t *testing.T) {
	r := rand.New(rand.NewSource(3))
	text := func() string {
		words := []string{"StorePath: ", "NarHash: sha256:", "NarSize: ", "References:", " ", "Sig: ", "\n", "\x00", "\xff", one, two[11:], letters(hash("x")), "12", "k:", ":", sigs(1)[0], "-", strings.Repeat("0", 52)}
		s := ""
		for range r.Intn(12) {
			s += words[r.Intn(len(words))]
		}
		return s
	}
	texts := func() []string {
		var l []string
		for range r.Intn(4) {
			l = append(l, text())
		}
		return l
	}
	for range 5000 {
		wantParse(t, text())
		i := api.Info{Path: text(), Hash: text(), Size: int(r.Uint64()), Refs: texts(), Sigs: texts()}
		wantMay(t, i, may(i))
		wantText(t, i)
		wantPrint(t, i)
		wantSame(t, i, i, true)
	}
}

// R1: of many bytes, lines, refs, signatures.
func TestMany(t *testing.T) {
	const n = 1 << 22
	long := strings.Repeat("0", n)
	for _, s := range []string{
		long, "StorePath: " + long, "StorePath: " + one + "\nNarHash: sha256:" + long + "\nNarSize: 0\nReferences:\n", strings.Replace(told(made()), "120", long, 1), strings.Replace(told(made()), "120", strings.Repeat("9", n), 1),
		strings.Repeat("\n", n), strings.Repeat(" ", n), strings.Repeat(":", n), strings.Repeat("Sig: \n", n/6), strings.Repeat("References: a b c d\n", n/20), "References:" + strings.Repeat(" a", n/2) + "\n", told(made()) + strings.Repeat("Sig: "+sigs(3)[2]+"\n", n/100), told(made()) + long,
		strings.Repeat(told(made()), n/600), looseText(turned(func(i *api.Info) { i.Refs = manyPaths(20000) })),
	} {
		if i, ok := info.Parse(s); ok || !same(i, api.Info{}) {
			t.Errorf("R1: Parse of %d bytes: %v", len(s), ok)
		}
	}
	for _, do := range []func(*api.Info){
		func(i *api.Info) { i.Path = long }, func(i *api.Info) { i.Hash = long }, func(i *api.Info) { i.Refs[2] = store + long }, func(i *api.Info) { i.Sigs[1] = "z:" + long },
		func(i *api.Info) { i.Refs = make([]string, n) }, func(i *api.Info) { i.Sigs = make([]string, n) }, func(i *api.Info) { i.Refs = slices.Repeat([]string{one}, n/8) }, func(i *api.Info) { i.Sigs = slices.Repeat(sigs(1), n/8) },
	} {
		i := turned(do)
		if info.May(i) || info.Text(i) != "" || info.Print(i) != "" || !info.Same(i, turned(do)) || info.Same(i, made()) {
			t.Errorf("R1: of many: %.100q..", i.Path)
		}
	}
}

// R1, R5: a call hangs on no call ahead of it.
func TestCallsDoNotTouch(t *testing.T) {
	good, bad := infos()[:40], others()
	for range 3 {
		for k, i := range good {
			x := bad[k*len(bad)/len(good)]
			wantMay(t, i, true)
			wantMay(t, x, false)
			wantText(t, x)
			wantText(t, i)
			wantPrint(t, i)
			wantPrint(t, x)
			wantParse(t, told(i))
			wantParse(t, looseText(x))
			wantSame(t, i, x, false)
			wantSame(t, i, i, true)
		}
	}
}

// views are texts that may be written into, and the bytes that they are.
type views struct{ bytes [][]byte }

func (v *views) of(s string) string {
	b := []byte(s)
	v.bytes = append(v.bytes, b)
	return unsafe.String(unsafe.SliceData(b), len(b))
}

func (v *views) all(l []string) []string {
	var x []string
	for _, s := range l {
		x = append(x, v.of(s))
	}
	return x
}

func (v *views) info(i api.Info) api.Info {
	return api.Info{Path: v.of(i.Path), Hash: v.of(i.Hash), Size: i.Size, Refs: v.all(i.Refs), Sigs: v.all(i.Sigs)}
}

// spoil writes into all of them.
func (v *views) spoil() {
	for _, b := range v.bytes {
		for i := range b {
			b[i] = '!'
		}
	}
}

// R3: what is handed in is neither changed nor kept, and what is told is new.
func TestNothingIsKept(t *testing.T) {
	for _, want := range infos() {
		var v views
		i, s := v.info(want), v.of(told(want))
		got, ok := info.Parse(s)
		text, line := info.Text(i), info.Print(i)
		if !info.May(i) || !info.Same(i, got) {
			t.Errorf("14.1: May or Same of %s", show(i))
		}
		if s != told(want) || !same(i, want) {
			t.Errorf("R3: what was handed in changed: %s", show(i))
		}
		v.spoil()
		if text != told(want) || line != printed(want) {
			t.Errorf("R3: what Text or Print told hangs on what was handed in: %q %q", brief(text), brief(line))
		}
		if !ok || !same(got, want) {
			t.Errorf("R3: what Parse told hangs on what was handed in: %s", show(got))
		}
	}
}

// R3: neither a list that is handed in nor its spare room is written into.
func TestListsStayAsTheyWere(t *testing.T) {
	for _, do := range []func(*api.Info){
		func(i *api.Info) {}, func(i *api.Info) { slices.Reverse(i.Refs) }, func(i *api.Info) { slices.Reverse(i.Sigs) }, func(i *api.Info) { i.Refs[1], i.Sigs[0] = "", "" },
	} {
		i := turned(do)
		refs, marks := append(slices.Clone(i.Refs), "spare", "room"), append(slices.Clone(i.Sigs), "spare", "room")
		x := i
		x.Refs, x.Sigs = refs[:3], marks[:2]
		info.May(x)
		info.Text(x)
		info.Print(x)
		info.Same(x, i)
		info.Same(i, x)
		if !slices.Equal(refs, append(slices.Clone(i.Refs), "spare", "room")) || !slices.Equal(marks, append(slices.Clone(i.Sigs), "spare", "room")) {
			t.Errorf("R3: lists that were handed in changed: %q %q", refs, marks)
		}
	}
}

// R3: whoever writes into what Parse told, or into its spare room, changes nothing
// else that was told.
func TestParseTellsNewMemory(t *testing.T) {
	s := told(made())
	a, _ := info.Parse(s)
	b, _ := info.Parse(s)
	for _, l := range [][]string{a.Refs, a.Sigs} {
		l = l[:cap(l)]
		for k := range l {
			l[k] = "written"
		}
	}
	if !same(b, made()) {
		t.Errorf("R3: one that was told changed by another: %s", show(b))
	}
	for _, l := range [][]string{b.Refs[:cap(b.Refs)], append(b.Refs, "x", "y", "z")} {
		for k := range l {
			l[k] = "written"
		}
	}
	if !slices.Equal(b.Sigs, made().Sigs) {
		t.Errorf("R3: signatures changed by refs: %q", b.Sigs)
	}
	if c, ok := info.Parse(s); !ok || !same(c, made()) {
		t.Errorf("R3: what is told changed: %s %v", show(c), ok)
	}
}
