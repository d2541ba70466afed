package scan_test

import (
	"math/rand"
	"runtime"
	"slices"
	"strings"
	"testing"
	"unsafe"

	"shelfmark/api"
	"shelfmark/codec"
	"shelfmark/scan"
)

// The chapter's words, told anew.

const letters = "0123456789abcdfghijklmnpqrsvwxyz"

// may is May, as 12.1 says it.
func may(part string) bool {
	n := 0
	for _, c := range []byte(part) {
		if strings.IndexByte(letters, c) < 0 {
			return false
		}
		n++
	}
	return n == 32
}

// find is Find, as 12.1 says it.
func find(s string, parts []string) []int {
	var l []int
	for i, part := range parts {
		if may(part) && strings.Contains(s, part) {
			l = append(l, i)
		}
	}
	return l
}

// places is Places, as 12.3 says it: each place is asked, with all that were told.
func places(s, part string) []int {
	var l []int
	for at := range len(s) {
		on := slices.ContainsFunc(l, func(earlier int) bool { return at < earlier+len(part) })
		if may(part) && strings.HasPrefix(s[at:], part) && !on {
			l = append(l, at)
		}
	}
	return l
}

// change is Change, as 12.3 says it.
func change(s, old, part string) string {
	if !may(old) || !may(part) {
		return s
	}
	b, next := "", 0
	for _, at := range places(s, old) {
		b, next = b+s[next:at]+part, at+len(old)
	}
	return b + s[next:]
}

// Parts of a few kinds.

var (
	one   = letters
	two   = "zyxwvsrqpnmlkjihgfdcba9876543210"
	three = strings.Repeat("0", 32)
	four  = strings.Repeat("ab", 16)
	five  = strings.Repeat("ba", 16)
	six   = strings.Repeat("abcd", 8)
	seven = letters[1:] + letters[:1] // its first 31 letters are the last of one
)

func parts() []string { return []string{one, two, three, four, five, six, seven} }

// wrong are texts that are no parts.
func wrong() []string {
	l := []string{
		"", "0", one[1:], one[:31], one + "0", "0" + one, one + one, one[:16],
		strings.ToUpper(one), strings.ToUpper(four), one[:31] + "Z", "A" + one[1:],
		strings.Repeat("\x00", 32), strings.Repeat("\xff", 32), strings.Repeat(" ", 32),
		strings.Repeat("\u00e4", 16), strings.Repeat("\u00e4", 32), strings.Repeat("0", 1<<20),
		one[:31] + "\n", "\n" + one[1:], one + "\x00", "/nix/store/" + one, one[:30] + "==",
	}
	for _, c := range "eotu" {
		for i := range 32 {
			l = append(l, three[:i]+string(c)+three[i+1:])
		}
		l = append(l, strings.Repeat(string(c), 32))
	}
	return l
}

// rows are texts in which parts stand, or nearly do.
func rows() []string {
	l := []string{
		"", "x", "e", "\x00", "\xff\xfe", one, "!" + one, one + "!", "!" + one + "!", "x" + one + "z",
		one + two, one + one, one + two + one, "x" + one + "yz" + two[:31] + "!" + two, two + "/" + three + "-" + one,
		one[:31], one[1:], one[:31] + "!", "!" + one[1:], one[:16] + "!" + one[16:], one[:31] + one, one + one[1:],
		one + "0", seven + one, one + seven, one[:1] + seven, "0" + letters[1:] + "0", letters + letters[:31],
		strings.ToUpper(one), strings.ToUpper(one) + one, "e" + one[1:], strings.Repeat("e", 64),
		strings.Repeat("ab", 40), strings.Repeat("ab", 15) + "a", strings.Repeat("ab", 16) + "a", "b" + strings.Repeat("ab", 32),
		strings.Repeat("abcd", 20), "cd" + strings.Repeat("abcd", 9), strings.Repeat(one, 9), strings.Repeat(one+"\xff", 9),
		strings.Repeat("!", 100) + six + strings.Repeat("\x00", 100), strings.Repeat("0", 31) + "1" + strings.Repeat("0", 32),
		"\u00e4" + one + "\u20ac" + two + "\U0001f4da", one[:31] + "\xc3" + one + "\xa4", strings.Repeat("0", 31) + "\x00" + strings.Repeat("0", 31),
	}
	for _, n := range []int{31, 32, 33, 63, 64, 65, 70, 95, 96, 97, 200} {
		l = append(l, strings.Repeat("0", n), strings.Repeat("0", n)+"!", "x"+strings.Repeat("0", n)+"x", strings.Repeat("z", n))
	}
	return l
}

// brief is the front of s, if it is long.
func brief(s string) string {
	if len(s) > 200 {
		return s[:200] + ".."
	}
	return s
}

func wantFound(t *testing.T, rule string, got, want []int, s string, parts []string) {
	t.Helper()
	if !slices.Equal(got, want) {
		t.Errorf("%s: of %d parts in %q: %v, want %v", rule, len(parts), brief(s), got, want)
	}
}

// 12.1

func TestMay(t *testing.T) {
	for _, part := range append(append(parts(), wrong()...), rows()...) {
		if got := scan.May(part); got != may(part) {
			t.Errorf("12.1: May of %q: %v", brief(part), got)
		}
	}
	for _, part := range parts() {
		if !scan.May(part) {
			t.Errorf("12.1: %q may not be", part)
		}
	}
	for _, part := range wrong() {
		if scan.May(part) {
			t.Errorf("12.1: %q may be", brief(part))
		}
	}
}

// Every byte at each place, and every length.
func TestMayOfEachByte(t *testing.T) {
	for b := range 256 {
		c := string([]byte{byte(b)})
		for i := range 32 {
			if part := one[:i] + c + one[i+1:]; scan.May(part) != strings.Contains(letters, c) {
				t.Errorf("12.1: May of %q: %v", part, scan.May(part))
			}
		}
	}
	for n := range 200 {
		for _, c := range []string{"0", "z", "a"} {
			if scan.May(strings.Repeat(c, n)) != (n == 32) {
				t.Errorf("12.1: May of %d letters", n)
			}
		}
	}
}

// The hash of a path is 20 bytes, whose letters are a part.
func TestLettersOfAHashMayBe(t *testing.T) {
	r := rand.New(rand.NewSource(1))
	for range 2000 {
		b := make([]byte, 20)
		r.Read(b)
		if part := codec.Base32(string(b)); !scan.May(part) {
			t.Errorf("12.1: %q may not be", part)
		}
	}
}

func TestFind(t *testing.T) {
	for i, c := range []struct {
		s     string
		parts []string
		want  []int
	}{
		{"", parts(), nil},
		{"", nil, nil},
		{one, nil, nil},
		{one, []string{}, nil},
		{one, []string{one}, []int{0}},
		{one + "!!", []string{two, one}, []int{1}},
		{"!!" + one, []string{one, two}, []int{0}},
		{"!" + one + "!", []string{two, one, two}, []int{1}},
		{"0" + one + "0", []string{one, three}, []int{0}},
		{one + two, []string{two, one}, []int{0, 1}},
		{two + one, []string{two, three, one}, []int{0, 2}},
		{one[:31], []string{one}, nil},
		{one[:31] + "!", []string{one}, nil},
		{one[1:], []string{one}, nil},
		{one + "0", []string{one, seven}, []int{0, 1}},
		{one, []string{one, one, two, one}, []int{0, 1, 3}},
		{two, []string{one, one, two, one}, []int{2}},
		{"e" + one, []string{"", "bad", one, one[:31], one + "0", "e" + one[1:]}, []int{2}},
		{strings.ToUpper(one), []string{one, strings.ToUpper(one)}, nil},
		{strings.Repeat("0", 31), []string{three}, nil},
		{strings.Repeat("0", 33), []string{three}, []int{0}},
		{strings.Repeat("ab", 17), []string{four, five, six}, []int{0, 1}},
		{strings.Repeat("ab", 16), []string{four, five, six}, []int{0}},
		{one[:16] + "\x00" + one[16:], []string{one}, nil},
	} {
		if got := scan.Find(c.s, c.parts); !slices.Equal(got, c.want) {
			t.Errorf("12.1: Find, case %d: %v, want %v", i, got, c.want)
		}
	}
}

func TestFindInRows(t *testing.T) {
	for _, s := range rows() {
		for _, l := range [][]string{nil, parts(), append(parts(), parts()...), append(wrong(), parts()...), append(parts(), wrong()...)} {
			wantFound(t, "12.1: Find", scan.Find(s, l), find(s, l), s, l)
		}
		for _, part := range parts() {
			l := []string{part}
			wantFound(t, "12.1: Find", scan.Find(s, l), find(s, l), s, l)
		}
	}
}

// At each place, whatever stands beside it.
func TestFindAtEachPlace(t *testing.T) {
	for _, side := range []string{"!", "0", "\x00", "e"} {
		for at := range 100 {
			for _, behind := range []int{0, 1, 31, 32, 50} {
				s := strings.Repeat(side, at) + one + strings.Repeat(side, behind)
				if got := scan.Find(s, []string{two, one}); !slices.Equal(got, []int{1}) {
					t.Errorf("12.1: Find at %d, %d bytes %q behind: %v", at, behind, side, got)
				}
				// One letter that is another one.
				i := at + at%32
				s = s[:i] + "!" + s[i+1:]
				if got := scan.Find(s, []string{two, one}); len(got) != 0 {
					t.Errorf("12.1: Find of what is spoilt at %d: %v", i, got)
				}
			}
		}
	}
}

// What may not be a part is nowhere, though it stands there.
func TestFindOfWrongParts(t *testing.T) {
	l := wrong()
	for _, s := range append(wrong(), strings.Join(wrong(), "!"), strings.Join(wrong(), "")) {
		if got := scan.Find(s, l); len(got) != 0 {
			t.Errorf("12.1: Find of wrong parts in %q: %v", brief(s), got)
		}
	}
}

func TestFindManyParts(t *testing.T) {
	r := rand.New(rand.NewSource(6))
	var l []string
	var b strings.Builder
	var want []int
	for i := range 5000 {
		hash := make([]byte, 20)
		r.Read(hash)
		l = append(l, codec.Base32(string(hash)))
		if i%3 == 1 {
			b.WriteString(l[i])
			want = append(want, i)
		}
	}
	wantFound(t, "12.1: Find", scan.Find(b.String(), l), want, b.String(), l)
}

// 12.2

// fed holds a scanner that is fed s in pieces of so many bytes against Find of
// what came, on the way and at the end.
func fed(t *testing.T, s string, parts []string, size int) {
	t.Helper()
	x := scan.New(parts)
	for at := 0; at < len(s); at += size {
		x.Feed(s[at:min(len(s), at+size)])
		x.Feed("")
		came := s[:min(len(s), at+size)]
		want := find(came, parts)
		for range 2 {
			wantFound(t, "12.2: Found on the way", x.Found(), want, came, parts)
		}
	}
	wantFound(t, "12.2: Found", x.Found(), find(s, parts), s, parts)
}

func TestFeed(t *testing.T) {
	lists := [][]string{nil, parts(), append(append(parts()[2:], "", "bad", two+"0"), parts()...)}
	for _, s := range rows() {
		for _, l := range lists {
			for _, size := range []int{1, 2, 3, 5, 16, 30, 31, 32, 33, 63, 64, 65, 1000} {
				fed(t, s, l, size)
			}
		}
	}
}

func TestFedNothing(t *testing.T) {
	x := scan.New(parts())
	for range 3 {
		if got := x.Found(); len(got) != 0 {
			t.Error("12.2: Found of nothing:", got)
		}
		x.Feed("")
	}
	x.Feed(one)
	for range 3 {
		if got := x.Found(); !slices.Equal(got, []int{0}) {
			t.Error("12.2: Found of a part:", got)
		}
		x.Feed("")
	}
	// What was found once is found.
	x.Feed(strings.Repeat("!", 1000))
	x.Feed(two)
	x.Feed(one)
	if got := x.Found(); !slices.Equal(got, []int{0, 1}) {
		t.Error("12.2: Found of two parts:", got)
	}
}

func TestScannerOfNoParts(t *testing.T) {
	for _, parts := range [][]string{nil, {}, {""}, wrong()} {
		x := scan.New(parts)
		if x == nil {
			t.Fatal("12.2: New of no parts is nil")
		}
		for _, s := range append(rows(), wrong()...) {
			x.Feed(s)
			if got := x.Found(); len(got) != 0 {
				t.Errorf("12.2: Found of no parts: %v", got)
			}
		}
	}
}

func TestNoScanner(t *testing.T) {
	var none *scan.Scanner
	for _, s := range []string{"", one, "x"} {
		none.Feed(s)
		if got := none.Found(); got != nil {
			t.Error("12.2: Found of nil:", got)
		}
	}
}

// R1: one that New did not make looks for no parts.
func TestEmptyScanner(t *testing.T) {
	var x scan.Scanner
	for _, s := range []string{"", one, "x", strings.Repeat(one, 3)} {
		x.Feed(s)
		if got := x.Found(); got != nil {
			t.Error("R1: Found of an empty scanner:", got)
		}
	}
}

// 12.2: of all that came, and of parts that may not be, little stays in memory.
func TestScannersAreSmall(t *testing.T) {
	const n, size = 64, 1 << 20
	l := make([]*scan.Scanner, n)
	before := inUse()
	for i := range l {
		long := strings.Repeat("0", size+i)
		l[i] = scan.New([]string{long, long[:32], long[:31]})
		l[i].Feed(long[:size/2])
		l[i].Feed(long[:20])
	}
	if after := inUse(); after > before+n*size/8 {
		t.Errorf("12.2: %d scanners keep %d bytes", n, after-before)
	}
	for _, x := range l {
		if got := x.Found(); !slices.Equal(got, []int{1}) {
			t.Error("12.2: Found:", got)
		}
	}
}

// inUse is how many bytes of memory are in use.
func inUse() uint64 {
	runtime.GC()
	var m runtime.MemStats
	runtime.ReadMemStats(&m)
	return m.HeapAlloc
}

// 12.3

func TestPlaces(t *testing.T) {
	for i, c := range []struct {
		s, part string
		want    []int
	}{
		{one, one, []int{0}},
		{"", one, nil},
		{one[:31], one, nil},
		{one[1:], one, nil},
		{one + "0", one, []int{0}},
		{"0" + one, one, []int{1}},
		{"x" + one + one + "y" + one, one, []int{1, 33, 66}},
		{one + two + one, one, []int{0, 64}},
		{one + two + one, two, []int{32}},
		{one + two + one, three, nil},
		{strings.Repeat("0", 31), three, nil},
		{strings.Repeat("0", 32), three, []int{0}},
		{strings.Repeat("0", 33), three, []int{0}},
		{strings.Repeat("0", 63), three, []int{0}},
		{strings.Repeat("0", 64), three, []int{0, 32}},
		{strings.Repeat("0", 65), three, []int{0, 32}},
		{strings.Repeat("0", 96), three, []int{0, 32, 64}},
		{"!" + strings.Repeat("0", 65), three, []int{1, 33}},
		{strings.Repeat("0", 40) + "!" + strings.Repeat("0", 40), three, []int{0, 41}},
		{strings.Repeat("ab", 33), four, []int{0, 32}},
		{strings.Repeat("ab", 33), five, []int{1, 33}},
		{strings.Repeat("abcd", 9), six, []int{0}},
		{"cd" + strings.Repeat("abcd", 16), six, []int{2, 34}},
		{one + one, seven, []int{1}},
		{one[:31] + one, one, []int{31}},
		{"\xff" + one + "\x00" + one, one, []int{1, 34}},
		{strings.ToUpper(one), one, nil},
	} {
		if got := scan.Places(c.s, c.part); !slices.Equal(got, c.want) {
			t.Errorf("12.3: Places, case %d: %v, want %v", i, got, c.want)
		}
	}
}

func TestPlacesInRows(t *testing.T) {
	for _, s := range rows() {
		for _, part := range parts() {
			if got, want := scan.Places(s, part), places(s, part); !slices.Equal(got, want) {
				t.Errorf("12.3: Places of %q in %q: %v, want %v", part, s, got, want)
			}
		}
	}
}

func TestPlacesOfWrongParts(t *testing.T) {
	all := strings.Join(wrong(), "!")
	for _, part := range wrong() {
		for _, s := range []string{"", part, part + part, one + part, "0" + part, all, strings.Repeat("0", 100)} {
			if got := scan.Places(s, part); len(got) != 0 {
				t.Errorf("12.3: Places of %q in %q: %v", brief(part), brief(s), got)
			}
		}
	}
}

func wantChange(t *testing.T, s, old, part, want string) {
	t.Helper()
	if got := scan.Change(s, old, part); got != want {
		t.Errorf("12.3: Change of %q, %q into %q: %q, want %q", brief(s), brief(old), brief(part), brief(got), brief(want))
	}
}

func TestChange(t *testing.T) {
	for _, c := range [][4]string{
		{one, one, two, two},
		{"", one, two, ""},
		{one[:31], one, two, one[:31]},
		{"x" + one + "y" + one, one, two, "x" + two + "y" + two},
		{one + one, one, two, two + two},
		{one + two, one, two, two + two},
		{one + two, two, one, one + one},
		{one + "!", two, one, one + "!"},
		{strings.Repeat("0", 31), three, two, strings.Repeat("0", 31)},
		{strings.Repeat("0", 33), three, two, two + "0"},
		{strings.Repeat("0", 63), three, two, two + strings.Repeat("0", 31)},
		{strings.Repeat("0", 64), three, two, two + two},
		{strings.Repeat("0", 70), three, two, two + two + "000000"},
		{"\xff\x00" + one + "\u00e4", one, three, "\xff\x00" + three + "\u00e4"},
		{strings.Repeat("ab", 17), five, one, "a" + one + "b"},
	} {
		wantChange(t, c[0], c[1], c[2], c[3])
	}
}

// Where the new part makes the old one stand, with what stands beside it, the old
// one is left there.
func TestChangeMakesTheOldOneStand(t *testing.T) {
	noughts := strings.Repeat("0", 31)
	for _, c := range []struct {
		s, old, part, want string
		at                 []int
	}{
		{"1" + noughts + noughts, "1" + noughts, noughts + "1", noughts + "1" + noughts, []int{31}},
		{three + "0", three, "1" + noughts, "1" + noughts + "0", []int{1}},
		{three + three + "0", three, "1" + noughts, "1" + noughts + "1" + noughts + "0", []int{33}},
		{one[:5] + one, one, one[5:] + "00000", one + "00000", []int{0}},
		{one + one, one, one[16:] + one[:16], one[16:] + one + one[:16], []int{16}},
		{one + one + one, one, one[16:] + one[:16], one[16:] + one + one + one[:16], []int{16, 48}},
		{"a" + five + "b", five, four, "a" + four + "b", nil},
		{four + "b", four, five, five + "b", []int{1}},
		{four + "a", four, five, five + "a", nil},
	} {
		wantChange(t, c.s, c.old, c.part, c.want)
		wantChange(t, c.s+"!"+c.s, c.old, c.part, c.want+"!"+c.want)
		if got := scan.Places(c.want, c.old); !slices.Equal(got, c.at) {
			t.Errorf("12.3: Places of %q in %q: %v, want %v", c.old, c.want, got, c.at)
		}
	}
}

func TestChangeIntoItself(t *testing.T) {
	for _, s := range rows() {
		for _, part := range parts() {
			wantChange(t, s, part, part, s)
		}
	}
}

func TestChangeOfWrongParts(t *testing.T) {
	for _, bad := range wrong() {
		for _, s := range []string{"", one, "x" + one + two, bad, "!" + bad + one, strings.Repeat("0", 100)} {
			wantChange(t, s, bad, one, s)
			wantChange(t, s, one, bad, s)
			wantChange(t, s, bad, bad, s)
			wantChange(t, s, three, bad, s)
		}
	}
}

func TestChangeInRows(t *testing.T) {
	for _, s := range rows() {
		for _, old := range parts() {
			for _, part := range parts() {
				wantChange(t, s, old, part, change(s, old, part))
				wantChange(t, s, old, part, strings.ReplaceAll(s, old, part))
			}
		}
	}
}

// 12.4

// In two pieces, and in three, wherever they part.
func TestPartsCutByFeeds(t *testing.T) {
	for _, s := range rows() {
		l := append(parts(), parts()...)
		want := find(s, l)
		for i := range len(s) + 1 {
			x := scan.New(l)
			x.Feed(s[:i])
			x.Feed(s[i:])
			wantFound(t, "12.4: in two pieces", x.Found(), want, s, l)
		}
	}
	s := "!" + one + two[:20] + three + "0"
	want := find(s, parts())
	for i := range len(s) + 1 {
		for k := i; k <= len(s); k++ {
			x := scan.New(parts())
			x.Feed(s[:i])
			x.Feed(s[i:k])
			x.Feed(s[k:])
			wantFound(t, "12.4: in three pieces", x.Found(), want, s, parts())
		}
	}
}

// A part cut by two Feeds at each of its places, whatever stands beside it.
func TestPartCut(t *testing.T) {
	for _, side := range []string{"", "!", "0", strings.Repeat("0", 40), strings.Repeat("!", 31), one, one[:31], one[1:]} {
		for i := range 33 {
			x := scan.New([]string{two})
			x.Feed(side + two[:i])
			if got := x.Found(); len(got) != i/32 {
				t.Errorf("12.4: ahead of the cut at %d: %v", i, got)
			}
			x.Feed(two[i:] + side)
			if got := x.Found(); !slices.Equal(got, []int{0}) {
				t.Errorf("12.4: a part cut at %d, beside %q: %v", i, side, got)
			}
			// What does not fit together is none.
			y := scan.New([]string{two})
			y.Feed(side + two[:i])
			y.Feed("!")
			y.Feed(two[i:] + side)
			if got := y.Found(); len(got) != 0 && i%32 != 0 {
				t.Errorf("12.4: a part with a byte at %d within it: %v", i, got)
			}
		}
	}
}

// some is a text of pieces in which parts often stand, and often nearly do.
func some(r *rand.Rand) string {
	var b strings.Builder
	for range r.Intn(12) {
		part := parts()[r.Intn(len(parts()))]
		switch r.Intn(6) {
		case 0:
			b.WriteString(part[:r.Intn(33)])
		case 1:
			b.WriteString(part[r.Intn(33):])
		case 2:
			b.WriteString([]string{"!", "e", "0", "a", "\x00", "\xff", "\n", "b", "00"}[r.Intn(9)])
		default:
			b.WriteString(part)
		}
	}
	return b.String()
}

// someParts are parts in any order, some twice, some that are one of bad.
func someParts(r *rand.Rand, bad []string) []string {
	var l []string
	for range r.Intn(12) {
		part := parts()[r.Intn(len(parts()))]
		if r.Intn(5) == 0 {
			part = bad[r.Intn(len(bad))]
		}
		l = append(l, part)
	}
	return l
}

func TestHoweverBytesAreCut(t *testing.T) {
	r, bad := rand.New(rand.NewSource(2)), wrong()
	for range 3000 {
		s, l := some(r), someParts(r, bad)
		x := scan.New(l)
		for at := 0; at < len(s); {
			next := min(len(s), at+r.Intn(1+r.Intn(80)))
			x.Feed(s[at:next])
			at = next
			if r.Intn(3) == 0 {
				wantFound(t, "12.2: Found on the way", x.Found(), find(s[:at], l), s[:at], l)
			}
		}
		want := find(s, l)
		wantFound(t, "12.4: in pieces", x.Found(), want, s, l)
		wantFound(t, "12.1: Find", scan.Find(s, l), want, s, l)
	}
}

func TestPlacesAndChangeOfSome(t *testing.T) {
	r := rand.New(rand.NewSource(3))
	for range 5000 {
		s, old, part := some(r), parts()[r.Intn(len(parts()))], parts()[r.Intn(len(parts()))]
		if got, want := scan.Places(s, old), places(s, old); !slices.Equal(got, want) {
			t.Errorf("12.3: Places of %q in %q: %v, want %v", old, s, got, want)
		}
		wantChange(t, s, old, part, change(s, old, part))
	}
}

// Many bytes: of a file as great as may be, and more.
func TestManyBytes(t *testing.T) {
	for _, n := range []int{api.MaxData, 1 << 20} {
		ahead := strings.Repeat("0", n)
		s := ahead + one + strings.Repeat("!", n) + two
		l := []string{two, four, one, three}
		want := []int{0, 2, 3}
		wantFound(t, "12.1: Find", scan.Find(s, l), want, s, l)
		for _, size := range []int{1, 31, 4096} {
			x := scan.New(l)
			for at := 0; at < len(s); at += size {
				x.Feed(s[at:min(len(s), at+size)])
			}
			wantFound(t, "12.4: in pieces", x.Found(), want, s, l)
		}
		if got := scan.Places(s, one); !slices.Equal(got, []int{n}) {
			t.Error("12.3: Places in many bytes:", got)
		}
		if got := scan.Places(ahead, three); len(got) != n/32 || got[len(got)-1] != n-32 {
			t.Error("12.3: Places in a row of one letter:", len(got))
		}
		if scan.Change(ahead, three, four) != strings.Repeat("ab", n/2) {
			t.Error("12.3: Change of a row of one letter")
		}
	}
}

// Rules of all calls

// R1
func TestNothingPanics(t *testing.T) {
	r := rand.New(rand.NewSource(4))
	text := func() string {
		b := make([]byte, r.Intn(100))
		for i := range b {
			b[i] = byte(r.Intn(256))
			if r.Intn(2) == 0 {
				b[i] = "0a"[r.Intn(2)]
			}
		}
		return string(b)
	}
	for range 4000 {
		s, a, b := text(), text(), text()
		l := []string{a, b, s, one, a}
		wantFound(t, "12.1: Find", scan.Find(s+one+a, l), find(s+one+a, l), s+one+a, l)
		fed(t, s+a+one+b, l, 1+r.Intn(40))
		if got := scan.Places(s, a); !slices.Equal(got, places(s, a)) {
			t.Errorf("12.3: Places of %q in %q: %v", a, s, got)
		}
		wantChange(t, s+one, a, b, change(s+one, a, b))
		if scan.May(s) != may(s) {
			t.Errorf("12.1: May of %q", s)
		}
	}
}

// R1, R5: a call hangs on no call ahead of it.
func TestCallsDoNotTouch(t *testing.T) {
	for range 3 {
		for _, s := range rows() {
			l := append(parts(), "bad", one)
			wantFound(t, "R1: Find", scan.Find(s, l), find(s, l), s, l)
			if got := scan.Places(s, three); !slices.Equal(got, places(s, three)) {
				t.Errorf("R1: Places in %q: %v", s, got)
			}
			wantChange(t, s, three, four, change(s, three, four))
		}
	}
}

// view is s as bytes that may be written into, and the text that they are.
func view(s string) (string, []byte) {
	b := []byte(s)
	return unsafe.String(unsafe.SliceData(b), len(b)), b
}

// spoil writes a letter into b, so that it may be a part, but another one.
func spoil(b []byte) {
	for i := range b {
		b[i] = '0'
	}
}

// R3: what is handed in is neither changed nor kept.
func TestNothingIsKept(t *testing.T) {
	s, bytes := view("!" + one + two + one + "x")
	part, partBytes := view(one)
	other, otherBytes := view(four)
	l := []string{part, "bad", other, part}
	if got := scan.Find(s, l); !slices.Equal(got, []int{0, 3}) {
		t.Error("12.1: Find:", got)
	}
	changed := scan.Change(s, part, other)
	same := []string{
		scan.Change(s, other, part), scan.Change(s, part, part), scan.Change(s, other, other),
		scan.Change(s, "bad", part), scan.Change(s, part, "bad"), scan.Change(s, "bad", "bad"), scan.Change(s, "", ""),
	}
	if string(bytes) != "!"+one+two+one+"x" || part != one || other != four {
		t.Error("R3: what was handed in changed")
	}
	if !slices.Equal(l, []string{one, "bad", four, one}) {
		t.Error("R3: parts that were handed in changed:", l)
	}
	spoil(bytes)
	spoil(partBytes)
	spoil(otherBytes)
	if changed != "!"+four+two+four+"x" {
		t.Errorf("R3: what Change told hangs on what was handed in: %q", changed)
	}
	for i, told := range same {
		if told != "!"+one+two+one+"x" {
			t.Errorf("R3: what Change told without a change, case %d, hangs on what was handed in: %q", i, told)
		}
	}
}

// R3: a scanner keeps neither the list nor the texts.
func TestScannerKeepsItsOwn(t *testing.T) {
	part, partBytes := view(one)
	other, otherBytes := view(four)
	l := []string{part, other, part, "spare"}
	x := scan.New(l[:3])
	if l[3] != "spare" {
		t.Error("R3: New wrote into spare room")
	}
	for i := range l {
		l[i] = two
	}
	spoil(partBytes)
	spoil(otherBytes)
	for _, cut := range []int{0, 7, 31, 32, 33, 63} {
		for _, piece := range []string{(one + two)[:cut], (one + two)[cut:]} {
			s, bytes := view(piece)
			x.Feed(s)
			if string(bytes) != piece {
				t.Error("R3: what was fed changed")
			}
			spoil(bytes)
		}
		if got := x.Found(); !slices.Equal(got, []int{0, 2}) {
			t.Errorf("R3: Found behind what was written into: %v", got)
		}
	}
	// Piece by piece, each written into when it was fed.
	y := scan.New([]string{one, two, three})
	for _, c := range []byte(two) {
		s, bytes := view(string([]byte{c}))
		y.Feed(s)
		spoil(bytes)
	}
	if got := y.Found(); !slices.Equal(got, []int{1}) {
		t.Error("R3: Found behind pieces that were written into:", got)
	}
}

// overwrite writes into l and into its spare room.
func overwrite(l []int) {
	l = l[:cap(l)]
	for i := range l {
		l[i] = -7
	}
}

// R3: what is told is new memory.
func TestWhatIsToldIsNew(t *testing.T) {
	s, l := one+two+one+three, []string{one, "bad", two, one, three}
	want := []int{0, 2, 3, 4}
	x := scan.New(l)
	x.Feed(s)
	first, second := x.Found(), x.Found()
	overwrite(first)
	wantFound(t, "R3: Found beside one that was written into", second, want, s, l)
	overwrite(second)
	wantFound(t, "R3: Found behind those", x.Found(), want, s, l)
	a, b := scan.Find(s, l), scan.Find(s, l)
	overwrite(a)
	wantFound(t, "R3: Find beside one that was written into", b, want, s, l)
	p, q := scan.Places(s, one), scan.Places(s, one)
	overwrite(p)
	if !slices.Equal(q, []int{0, 64}) || !slices.Equal(scan.Places(s, one), []int{0, 64}) {
		t.Error("R3: Places beside those that were written into:", q)
	}
}

// R5
func TestTwoScanners(t *testing.T) {
	r, bad := rand.New(rand.NewSource(5)), wrong()
	for range 300 {
		l, m := someParts(r, bad), someParts(r, bad)
		a, b := some(r), some(r)
		x, again, y := scan.New(l), scan.New(l), scan.New(m)
		for i := range max(len(a), len(b)) {
			if i < len(a) {
				x.Feed(a[i : i+1])
			}
			if i < len(b) {
				y.Feed(b[i : i+1])
			}
		}
		wantFound(t, "R5: of one", x.Found(), find(a, l), a, l)
		wantFound(t, "R5: of the other", y.Found(), find(b, m), b, m)
		wantFound(t, "R5: of one that was not fed", again.Found(), nil, "", l)
		again.Feed(a)
		wantFound(t, "R5: of the same", again.Found(), x.Found(), a, l)
	}
}
