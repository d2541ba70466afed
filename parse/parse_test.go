package parse_test

import (
	"fmt"
	"math"
	"math/rand"
	"slices"
	"strings"
	"testing"
	"unsafe"

	"shelfmark/api"
	"shelfmark/nar"
	"shelfmark/parse"
)

func file(path, data string) api.Node { return api.Node{Path: path, Kind: api.KFile, Data: data} }
func exec(path, data string) api.Node { return api.Node{Path: path, Kind: api.KExec, Data: data} }
func link(path, data string) api.Node { return api.Node{Path: path, Kind: api.KLink, Data: data} }
func dir(path string) api.Node        { return api.Node{Path: path, Kind: api.KDir} }

func only(node api.Node) []api.Node { return []api.Node{node} }

// in is a directory with these nodes.
func in(l ...api.Node) []api.Node { return append(only(dir("")), l...) }

// all is a small tree of all kinds.
func all() []api.Node {
	return in(dir("a"), dir("a/b"), link("a/b/c", "../t"), exec("a/x", "run"), file("a-", "12345678"), dir("b"), file("c", ""))
}

// flat is a directory with n files in it.
func flat(n int) []api.Node {
	l := in()
	for i := range n {
		l = append(l, file(fmt.Sprint(1000+i), ""))
	}
	return l
}

// deep is a directory, and n more, each in the one ahead of it; the last, of n
// names, is node.
func deep(n int, name string, node api.Node) []api.Node {
	l := in()
	for i := range n {
		l = append(l, dir(strings.Repeat("/"+name, i+1)[1:]))
	}
	node.Path = l[n].Path
	l[n] = node
	return l
}

func trees() [][]api.Node {
	long := strings.Repeat("n", api.MaxName)
	return [][]api.Node{
		in(), only(file("", "hello")), only(file("", "")), only(exec("", "x")), only(exec("", "")), only(link("", "/t")), all(),
		only(file("", "\x00")), only(file("", "12345678")), only(exec("", "\x00\x01\x00\x00\x00\x00\x00\x00\x00")), only(link("", ")")),
		only(file("", strs("nix-archive-1", "(", "type"))), only(link("", "\xff\n")),
		in(file("\x01", ""), file(" ", "x"), file("(", "y"), file("-", "z"), file("...", ""), dir("A"), dir("A/A"), file("A/A/A", "A"), link("\xff", "\xff")),
		in(dir("a"), file("a/z", ""), exec("a-", ""), file("a.b", ""), file("aa", ""), dir("b"), file("b/a", ""), file("ba", "")),
		in(dir("contents"), file("entry", ""), file("name", "node"), link("type", "regular")),
		in(file(long[1:], ""), dir(long), link(long+"/"+long, long)),
		in(dir("a"), dir("b"), dir("b/a"), dir("b/a/b"), dir("b/b"), dir("c")),
	}
}

// greatTrees are those with as much of a thing as there may be.
func greatTrees() [][]api.Node {
	most := strings.Repeat("d", api.MaxData)
	return [][]api.Node{
		only(file("", most)), only(exec("", most)), only(file("", most[1:])), only(file("", most[7:])), only(file("", most[8:])),
		only(link("", most[:4096])), only(link("", most[:4095])), in(file("a", most), exec("b", most), link("c", most[:4096])),
		flat(api.MaxNodes - 1), flat(api.MaxNodes - 2), deep(api.MaxDepth, "d", dir("")), deep(api.MaxDepth-1, "d", link("", "d")),
		deep(api.MaxDepth, strings.Repeat("n", api.MaxName), exec("", "deep")),
	}
}

func brief(l []api.Node) string {
	var b strings.Builder
	for i, node := range l {
		if i == 12 {
			b.WriteString(" ..")
			break
		}
		fmt.Fprintf(&b, " {%.60q %d %.20q}", node.Path, node.Kind, node.Data)
	}
	return fmt.Sprintf("%d nodes:%s", len(l), b.String())
}

// tail is the end of s, where what is wrong mostly stands.
func tail(s string) string { return fmt.Sprintf("%d bytes .. %q", len(s), s[max(0, len(s)-120):]) }

// agree holds Get of s, and a reader that is fed all of it at once, against what
// the chapter's words tell, and tells their error.
func agree(t *testing.T, s string) api.Errno {
	t.Helper()
	l, e := get(s)
	got, err := parse.Get(s)
	if err != e || !slices.Equal(got, l) || e != api.OK && got != nil {
		t.Errorf("11.1: Get of %s: %s, %v, want %s, %v", tail(s), brief(got), err, brief(l), e)
	}
	r := parse.New()
	if err := r.Feed(s); err != fed(s) {
		t.Errorf("11.2: Feed of %s: %v, want %v", tail(s), err, fed(s))
	}
	for range 2 {
		if got, err := r.End(); err != e || !slices.Equal(got, l) || e != api.OK && got != nil {
			t.Errorf("11.2: End of %s: %s, %v, want %s, %v", tail(s), brief(got), err, brief(l), e)
		}
	}
	return e
}

// want holds Get and a reader against what the chapter's words tell, and that
// against e.
func want(t *testing.T, s string, e api.Errno) {
	t.Helper()
	if _, own := get(s); own != e {
		t.Errorf("the test's own: %s: %v, want %v", tail(s), own, e)
	}
	agree(t, s)
}

// byOne holds a reader that is fed s byte by byte against Get of what came.
func byOne(t *testing.T, s string) {
	t.Helper()
	r := parse.New()
	for i := range len(s) + 1 {
		l, e := get(s[:i])
		if err := r.Feed(s[max(0, i-1):i]); err != fed(s[:i]) {
			t.Errorf("11.2: Feed of byte %d of %s: %v, want %v", i, tail(s), err, fed(s[:i]))
			return
		}
		if got, err := r.End(); err != e || !slices.Equal(got, l) || e != api.OK && got != nil {
			t.Errorf("11.2: End behind byte %d of %s: %s, %v, want %v", i, tail(s), brief(got), err, e)
			return
		}
	}
}

// spot is a place in the bytes of a tree: what comes ahead of it, how many bytes
// a text there may have, and texts that may stand there.
type spot struct {
	ahead string
	most  int
	may   []string
}

func spots() []spot {
	top := strs("nix-archive-1", "(", "type")
	regular := top + strs("regular")
	runs := regular + strs("executable")
	dirs := top + strs("directory")
	entry := dirs + strs("entry", "(", "name")
	second := dirs + strs("entry", "(", "name", "b", "node", "(", "type", "directory", ")", ")")
	below := entry + strs("b", "node", "(", "type", "directory")
	data := []string{"", "x", "\x00", strings.Repeat("d", api.MaxData)}
	return []spot{
		{"", 13, []string{"nix-archive-1"}},
		{strs("nix-archive-1"), 1, []string{"("}},
		{strs("nix-archive-1", "("), 4, []string{"type"}},
		{top, 9, []string{"regular", "symlink", "directory"}},
		{regular, 10, []string{"executable", "contents"}},
		{regular + strs("contents"), api.MaxData, data},
		{regular + strs("contents", "x"), 1, []string{")"}},
		{runs, 0, []string{""}},
		{runs + strs(""), 8, []string{"contents"}},
		{runs + strs("", "contents"), api.MaxData, data},
		{runs + strs("", "contents", "x"), 1, []string{")"}},
		{top + strs("symlink"), 6, []string{"target"}},
		{top + strs("symlink", "target"), 4096, []string{"x", ")", strings.Repeat("t", 4096)}},
		{top + strs("symlink", "target", "x"), 1, []string{")"}},
		{dirs, 5, []string{"entry", ")"}},
		{dirs + strs("entry"), 1, []string{"("}},
		{dirs + strs("entry", "("), 4, []string{"name"}},
		{entry, api.MaxName, []string{"a", "\xff", strings.Repeat("n", api.MaxName)}},
		{entry + strs("a"), 4, []string{"node"}},
		{entry + strs("a", "node"), 1, []string{"("}},
		{entry + strs("a", "node", "("), 4, []string{"type"}},
		{entry + strs("a", "node", "(", "type"), 9, []string{"regular", "symlink", "directory"}},
		{entry + strs("a", "node", "(", "type", "regular", "contents"), api.MaxData, data},
		{entry + strs("a", "node", "(", "type", "regular", "contents", "x"), 1, []string{")"}},
		{entry + strs("a", "node", "(", "type", "regular", "contents", "x", ")"), 1, []string{")"}},
		{below, 5, []string{"entry", ")"}},
		{below + strs("entry", "(", "name"), api.MaxName, []string{"a", "b"}},
		{below + strs(")"), 1, []string{")"}},
		{second, 5, []string{"entry", ")"}},
		{second + strs("entry", "(", "name"), api.MaxName, []string{"ba", "c"}},
	}
}

func words() []string {
	return []string{"", "nix-archive-1", "(", ")", "type", "regular", "executable", "contents", "symlink", "target", "directory", "entry", "name", "node"}
}

// 11.1

func TestGetOfNothing(t *testing.T) {
	want(t, "", api.ErrMore)
	if l, e := parse.Get(""); l != nil || e != api.ErrMore {
		t.Error("11.1: the example", l, e)
	}
}

func TestGet(t *testing.T) {
	for _, l := range append(trees(), greatTrees()...) {
		s := strs(texts(l)...)
		want(t, s, api.OK)
		if got, e := parse.Get(s); e != api.OK || !slices.Equal(got, l) {
			t.Errorf("11.1: Get of %s: %s, %v", brief(l), brief(got), e)
		}
	}
}

// The bytes of a small tree, each written out.
func TestGetOfKnownBytes(t *testing.T) {
	s := "\x0d\x00\x00\x00\x00\x00\x00\x00nix-archive-1\x00\x00\x00" +
		"\x01\x00\x00\x00\x00\x00\x00\x00(\x00\x00\x00\x00\x00\x00\x00" +
		"\x04\x00\x00\x00\x00\x00\x00\x00type\x00\x00\x00\x00" +
		"\x07\x00\x00\x00\x00\x00\x00\x00regular\x00" +
		"\x0a\x00\x00\x00\x00\x00\x00\x00executable\x00\x00\x00\x00\x00\x00" +
		"\x00\x00\x00\x00\x00\x00\x00\x00" +
		"\x08\x00\x00\x00\x00\x00\x00\x00contents" +
		"\x09\x00\x00\x00\x00\x00\x00\x00#!/bin/sh\x00\x00\x00\x00\x00\x00\x00" +
		"\x01\x00\x00\x00\x00\x00\x00\x00)\x00\x00\x00\x00\x00\x00\x00"
	if got, e := parse.Get(s); e != api.OK || !slices.Equal(got, only(exec("", "#!/bin/sh"))) {
		t.Error("11.1: Get of a tree of one node:", brief(got), e)
	}
}

func TestCut(t *testing.T) {
	for _, l := range trees() {
		s := strs(texts(l)...)
		for i := range s {
			if got, e := parse.Get(s[:i]); e != api.ErrMore || got != nil {
				t.Fatalf("11.1: Get of %d bytes of %d of %s: %s, %v", i, len(s), brief(l), brief(got), e)
			}
		}
		byOne(t, s)
	}
	for _, l := range greatTrees() {
		s := strs(texts(l)...)
		for i := 0; i < len(s); i += 1 + i%1009 {
			want(t, s[:i], api.ErrMore)
		}
		want(t, s[:len(s)-1], api.ErrMore)
	}
}

// Whatever the bytes: of fewer than eight nothing is asked.
func TestFewerThanEight(t *testing.T) {
	for _, c := range spots() {
		for _, b := range []string{"\x00", "\x01", "\x7f", "\xff", "("} {
			for n := range 8 {
				want(t, c.ahead+strings.Repeat(b, n), api.ErrMore)
			}
		}
	}
}

func TestLengths(t *testing.T) {
	for _, c := range spots() {
		most := uint64(c.most)
		if most > 0 {
			want(t, c.ahead+size(most), api.ErrMore)
			want(t, c.ahead+size(most)+strings.Repeat("\xff", int(most-1)), api.ErrMore)
		}
		if most > 1 {
			want(t, c.ahead+size(most-1), api.ErrMore)
		}
		for _, n := range []uint64{most + 1, most + 2, most + 8, most + 256, most<<1 + 1, 1 << 17, 1<<31 - 1, 1 << 31, 1<<32 - 1, 1 << 32, 1<<32 + most, 1<<32 + most + 1,
			1 << 62, math.MaxInt64 - 16, math.MaxInt64 - 7, math.MaxInt64, 1 << 63, 1<<63 + most, 1<<63 + 1, math.MaxUint64 - 16, math.MaxUint64 - 7, math.MaxUint64 - 1, math.MaxUint64} {
			for _, behind := range []string{"", "x", "\x00", c.may[0], strs(c.may[0]), strings.Repeat("\x00", 300), strings.Repeat("x", 70000)} {
				want(t, c.ahead+size(n)+behind, api.ErrForm)
			}
		}
		// Each byte of the length counts, whatever the lowest is.
		for k := 1; k < 8; k++ {
			for _, b := range []uint64{1, 0x7f, 0x80, 0xff} {
				if n := b << (8 * k); n > most {
					want(t, c.ahead+size(n|uint64(len(c.may[0])))+strs(c.may[0])[8:], api.ErrForm)
				}
			}
		}
	}
}

func TestTextsThatMayBe(t *testing.T) {
	for _, c := range spots() {
		for _, text := range c.may {
			s := c.ahead + strs(text)
			if e := agree(t, s); e != api.ErrMore && e != api.OK {
				t.Errorf("the test's own: %s: %v", tail(s), e)
			}
		}
	}
}

// Too few bytes are told ahead of a fill and of a text that may not be.
func TestTooFew(t *testing.T) {
	for _, c := range spots() {
		for _, text := range []string{".", "x", "/", "\x00", "x\x00\x00", "xyzabc", "1234567", "12345678", "123456789", strings.Repeat("/", 250)} {
			if len(text) > c.most {
				continue
			}
			for _, fill := range []string{"\x00", "\x01", "\xff"} {
				full := text + strings.Repeat(fill, (8-len(text)%8)%8)
				for n := range full {
					want(t, c.ahead+size(uint64(len(text)))+full[:n], api.ErrMore)
				}
			}
		}
	}
}

func TestFill(t *testing.T) {
	for _, c := range spots() {
		for _, text := range append(slices.Clone(c.may), "x", "xyz", "12345678") {
			if len(text) > c.most {
				continue
			}
			s := c.ahead + strs(text)
			fill := (8 - len(text)%8) % 8
			for i := len(s) - fill; i < len(s); i++ {
				for _, b := range []string{"\x01", "\x80", "\xff", " ", ")"} {
					want(t, s[:i]+b+s[i+1:], api.ErrForm)
					want(t, s[:i]+b+s[i+1:]+strs(")"), api.ErrForm)
				}
			}
		}
	}
}

func TestOtherTexts(t *testing.T) {
	for _, c := range spots() {
		if c.most >= api.MaxName {
			continue
		}
		for _, may := range append(words(), c.may...) {
			for _, text := range []string{may, may + "\x00", may + "x", "x" + may, strings.ToUpper(may), may[:max(0, len(may)-1)], may[min(1, len(may)):], " " + may, may + " "} {
				if !slices.Contains(c.may, text) {
					want(t, c.ahead+strs(text), api.ErrForm)
					want(t, c.ahead+strs(text, ")", ")"), api.ErrForm)
				}
			}
		}
	}
}

// entries are the bytes of a directory with directories of these names, up to
// the last one's name.
func entries(names ...string) string {
	l := []string{"nix-archive-1", "(", "type", "directory"}
	for i, name := range names {
		l = append(l, "entry", "(", "name", name)
		if i+1 < len(names) {
			l = append(l, "node", "(", "type", "directory", ")", ")")
		}
	}
	return strs(l...)
}

// whole is entries with what makes a tree of them.
func whole(names ...string) string {
	return entries(names...) + strs("node", "(", "type", "directory", ")", ")", ")")
}

func TestNames(t *testing.T) {
	long := strings.Repeat("n", 254)
	for name, ok := range map[string]bool{
		"a": true, "ab": true, "12345678": true, "...": true, ".a": true, "a.": true, "..a": true, "\xff": true, "\\": true, "\r\n": true, " ": true, "\xc0\xaf": true,
		long: true, long + "n": true, long + "/": false, long + "\x00": false, "": false, ".": false, "..": false,
		"/": false, "a/": false, "/a": false, "a/b": false, "../a": false, "\x00": false, "a\x00": false, "\x00a": false, "a\x00b": false, "a\x00\x00\x00\x00\x00\x00\x00": false,
	} {
		e, all := api.ErrForm, api.ErrForm
		if ok {
			e, all = api.ErrMore, api.OK
		}
		want(t, entries(name), e)
		want(t, whole(name), all)
		want(t, entries(name)[:len(entries(name))-1], api.ErrMore)
	}
	for n := range 300 {
		if n == 0 || n > api.MaxName {
			want(t, whole(strings.Repeat("n", n)), api.ErrForm)
		} else {
			want(t, whole(strings.Repeat("n", n)), api.OK)
		}
	}
	for c := range 256 {
		one := string([]byte{byte(c)})
		for _, name := range []string{one, "a" + one + "b", one + "ab", "ab" + one} {
			if mayName(name) {
				want(t, whole(name), api.OK)
			} else {
				want(t, entries(name), api.ErrForm)
				want(t, whole(name), api.ErrForm)
			}
		}
	}
}

func TestOrderOfNames(t *testing.T) {
	for _, c := range []struct {
		names []string
		ok    bool
	}{
		{[]string{"a", "b"}, true}, {[]string{"a", "b", "c"}, true}, {[]string{"a", "aa"}, true}, {[]string{"a", "a\x01"}, true}, {[]string{"a", "a "}, true},
		{[]string{"A", "a"}, true}, {[]string{"Z", "a"}, true}, {[]string{"a", "\xff"}, true}, {[]string{"\x7f", "\x80"}, true}, {[]string{"\xc3\xa4", "\xff"}, true},
		{[]string{"1", "10", "2"}, true}, {[]string{"a", "a-", "a.", "aa"}, true}, {[]string{"\x01", "\x02"}, true}, {[]string{"z", "\xc3\xa4"}, true},
		{[]string{"a", "a"}, false}, {[]string{"b", "a"}, false}, {[]string{"aa", "a"}, false}, {[]string{"a\x01", "a"}, false}, {[]string{"a", "A"}, false},
		{[]string{"\xff", "a"}, false}, {[]string{"\x80", "\x7f"}, false}, {[]string{"2", "10"}, false}, {[]string{"a", "b", "b"}, false}, {[]string{"a", "b", "a"}, false},
		{[]string{"a", "c", "b"}, false}, {[]string{"\xc3\xa4", "z"}, false}, {[]string{"a", "\x7f", "b"}, false}, {[]string{"abc", "ab"}, false}, {[]string{"b", "aa"}, false},
	} {
		e, all := api.ErrForm, api.ErrForm
		if c.ok {
			e, all = api.ErrMore, api.OK
		}
		want(t, entries(c.names...), e)
		want(t, whole(c.names...), all)
		want(t, entries(c.names...)[:len(entries(c.names...))-1], api.ErrMore)
	}
}

// Only the names of one directory are held against one another.
func TestOrderOfNamesBelow(t *testing.T) {
	for _, c := range []struct {
		l  []api.Node
		ok bool
	}{
		{in(dir("b"), dir("b/a"), dir("b/a/a"), dir("b/b"), dir("b/b/a"), dir("c"), dir("c/a")), true},
		{in(dir("a"), dir("a/z"), dir("a/z/z"), dir("b")), true},
		{in(dir("m"), dir("m/z"), dir("m")), false},
		{in(dir("m"), dir("m/z"), dir("a")), false},
		{in(dir("m"), dir("m/a"), dir("m/a")), false},
		{in(dir("m"), dir("m/b"), dir("m/b/c"), dir("m/a")), false},
		{in(dir("m"), dir("m/z"), dir("n"), dir("n/a"), dir("m")), false},
		{in(dir("m"), dir("m/b"), dir("m/b/z"), dir("m/b/z/z"), dir("m/b")), false},
	} {
		// A list that is no tree is laid out by hand: body would take the nodes of
		// two directories of one path together.
		s := strs(laid(c.l)...)
		if c.ok {
			want(t, s, api.OK)
		} else {
			want(t, s, api.ErrForm)
		}
	}
}

// laid is the texts of directories in the order of l, each closed where the next
// is not below it.
func laid(l []api.Node) []string {
	out := []string{"nix-archive-1", "(", "type", "directory"}
	depth := 0
	for _, node := range l[1:] {
		names := strings.Split(node.Path, "/")
		for ; depth >= len(names); depth-- {
			out = append(out, ")", ")")
		}
		out = append(out, "entry", "(", "name", names[len(names)-1], "node", "(", "type", "directory")
		depth++
	}
	for ; depth > 0; depth-- {
		out = append(out, ")", ")")
	}
	return append(out, ")")
}

func TestTargets(t *testing.T) {
	top := strs("nix-archive-1", "(", "type", "symlink", "target")
	long := strings.Repeat("t", 4096)
	for _, target := range []string{"a", "/", ".", "..", "../../x", "a b", "\x01", "\xff", "12345678", long[7:], long[1:], long, long[8:] + "/////// "} {
		want(t, top+strs(target), api.ErrMore)
		want(t, top+strs(target, ")"), api.OK)
		if l, e := parse.Get(top + strs(target, ")")); e != api.OK || !slices.Equal(l, only(link("", target))) {
			t.Errorf("11.1: a link to %.20q: %s, %v", target, brief(l), e)
		}
	}
	for _, target := range []string{"", "\x00", "a\x00", "\x00a", "a\x00b", "\x00\x00\x00\x00\x00\x00\x00\x00", long[1:] + "\x00", "\x00" + long[1:], long + "t", long + long} {
		want(t, top+strs(target), api.ErrForm)
		want(t, top+strs(target, ")"), api.ErrForm)
	}
}

func TestData(t *testing.T) {
	most := strings.Repeat("d", api.MaxData)
	for _, kind := range []string{strs("nix-archive-1", "(", "type", "regular", "contents"), strs("nix-archive-1", "(", "type", "regular", "executable", "", "contents")} {
		for n := range 40 {
			want(t, kind+strs(most[:n], ")"), api.OK)
			want(t, kind+strs(most[n:], ")"), api.OK)
			want(t, kind+strs(strings.Repeat("\x00", n), ")"), api.OK)
		}
		for _, data := range []string{most + "d", most + "d\x00\x00\x00\x00\x00\x00\x00", most + most} {
			want(t, kind+strs(data, ")"), api.ErrForm)
			want(t, kind+strs(data)[:8], api.ErrForm)
			want(t, kind+strs(data)[:7], api.ErrMore)
		}
	}
}

// Behind `executable` comes nothing, and then `contents`.
func TestExecutable(t *testing.T) {
	top := strs("nix-archive-1", "(", "type", "regular", "executable")
	want(t, top+strs("", "contents", "x", ")"), api.OK)
	for _, s := range []string{size(1), size(8), strs("x"), strs("\x00"), strs("contents"), strs("contents", "x", ")"), strs("", ""), strs("", "executable"), strs("", "executable", "", "contents", "x", ")"), strs("", ")"), strs("", "context", "x")} {
		want(t, top+s, api.ErrForm)
	}
	want(t, strs("nix-archive-1", "(", "type", "regular", "contents", "x", "executable", ""), api.ErrForm)
	want(t, strs("nix-archive-1", "(", "type", "executable", "", "contents", "x", ")"), api.ErrForm)
	want(t, strs("nix-archive-1", "(", "type", "regular", "contents", "", "contents", "x", ")"), api.ErrForm)
	want(t, strs("nix-archive-1", "(", "type", "regular", ")"), api.ErrForm)
	want(t, strs("nix-archive-1", "(", "type", "symlink", "executable", "", "target", "x", ")"), api.ErrForm)
	want(t, strs("nix-archive-1", "(", "type", "directory", "executable", "", ")"), api.ErrForm)
}

// tooMany holds the bytes of a tree that has one name too many: it is asked as
// the name is read, not ahead of it.
func tooMany(t *testing.T, ahead, name string) {
	t.Helper()
	last := strs("entry", "(", "name")
	for i := range last + strs(name) {
		want(t, ahead+(last + strs(name))[:i], api.ErrMore)
	}
	want(t, ahead+last+strs(name), api.ErrForm)
	want(t, ahead+last+strs(name, "node", "(", "type", "directory", ")", ")", ")"), api.ErrForm)
	want(t, ahead+last+size(api.MaxName+1), api.ErrForm)
}

func TestTooManyNodes(t *testing.T) {
	most := texts(flat(api.MaxNodes - 1))
	want(t, strs(most...), api.OK)
	tooMany(t, strs(most[:len(most)-1]...), "z")
	// Nodes of all directories count, however deep.
	l := in()
	for i := range 5 {
		l = append(l, dir(fmt.Sprint(i)))
		for k := range 50 {
			l = append(l, file(fmt.Sprint(i, "/", 100+k), "x"))
		}
	}
	want(t, strs(texts(l)...), api.OK)
	tooMany(t, strs(texts(l)[:len(texts(l))-1]...), "z")
	inner := slices.Insert(slices.Clone(l), 1, dir("-"), link("-/x", "y"))
	want(t, strs(texts(inner)...), api.ErrForm)
	want(t, strs(texts(inner[:api.MaxNodes])...), api.OK)
	for n := 250; n < 270; n++ {
		if e := agree(t, strs(texts(flat(n-1))...)); (e == api.OK) != (n <= api.MaxNodes) {
			t.Errorf("11.1: %d nodes: %v", n, e)
		}
	}
}

func TestTooDeep(t *testing.T) {
	for _, name := range []string{"d", "12345678", strings.Repeat("n", api.MaxName)} {
		l := texts(deep(api.MaxDepth, name, dir("")))
		want(t, strs(l...), api.OK)
		ahead := len(l) - 2*api.MaxDepth - 1 // the ends of all that are open
		tooMany(t, strs(l[:ahead]...), name)
		want(t, strs(l[:ahead]...)+strs(")"), api.ErrMore)
		for n := api.MaxDepth - 3; n < api.MaxDepth+4; n++ {
			for _, node := range []api.Node{dir(""), file("", "x"), exec("", ""), link("", "t")} {
				if e := agree(t, strs(texts(deep(n, name, node))...)); (e == api.OK) != (n <= api.MaxDepth) {
					t.Errorf("11.1: a path of %d names: %v", n, e)
				}
			}
		}
	}
	// A directory of the last names there may be is left, and more comes beside it.
	l := append(deep(api.MaxDepth, "d", dir("")), dir("e"), file("e/f", "g"), file("f", ""))
	want(t, strs(texts(l)...), api.OK)
	// So many in one another as no call could go into.
	top := strs("nix-archive-1", "(", "type")
	want(t, top+strings.Repeat(strs("directory", "entry", "(", "name", "d", "node", "(", "type"), 100000), api.ErrForm)
	want(t, strings.Repeat(strs("("), 100000), api.ErrForm)
}

func TestBytesBehind(t *testing.T) {
	for _, l := range trees() {
		s := strs(texts(l)...)
		for _, behind := range []string{"\x00", "x", "\xff", "\x00\x00\x00\x00\x00\x00\x00", size(0), size(1), strs(")"), strs("entry"), s, strings.Repeat("\x00", 1000)} {
			want(t, s+behind, api.ErrForm)
		}
	}
}

// Each byte of a tree's bytes as another.
func TestTurnedBytes(t *testing.T) {
	for _, l := range [][]api.Node{all(), only(exec("", "run")), only(link("", "to")), only(file("", "12345678"))} {
		s := strs(texts(l)...)
		for i := range s {
			for _, b := range []byte{s[i] ^ 1, s[i] + 1, s[i] - 1, s[i] ^ 128, 0, 1, 8, 255, '/', '.', 'z'} {
				agree(t, s[:i]+string([]byte{b})+s[i+1:])
			}
		}
	}
}

// Of each text of a tree's as many others as there are about it.
func TestTurnedTexts(t *testing.T) {
	r := rand.New(rand.NewSource(11))
	found := map[api.Errno]int{}
	for range 20000 {
		l := texts(someTree(r))
		for range 1 + r.Intn(3) {
			l = someTexts(r, l)
		}
		found[agree(t, strs(l...))]++
	}
	for _, e := range []api.Errno{api.OK, api.ErrForm, api.ErrMore} {
		if found[e] < 100 {
			t.Errorf("the test's own: %v is told %d times", e, found[e])
		}
	}
}

func TestSomeBytes(t *testing.T) {
	r := rand.New(rand.NewSource(12))
	found := map[api.Errno]int{}
	for range 20000 {
		s := strs(texts(someTree(r))...)
		for range 1 + r.Intn(3) {
			s = someBytes(r, s)
		}
		found[agree(t, s)]++
	}
	for _, e := range []api.Errno{api.OK, api.ErrForm, api.ErrMore} {
		if found[e] < 10 {
			t.Errorf("the test's own: %v is told %d times", e, found[e])
		}
	}
}

// 11.2

func TestFeedByteByByte(t *testing.T) {
	r := rand.New(rand.NewSource(13))
	for range 60 {
		l := texts(someTree(r))
		byOne(t, strs(l...)+"\x00\x00")
		byOne(t, strs(someTexts(r, l)...))
		byOne(t, someBytes(r, strs(l...)))
	}
}

func TestFeedInPieces(t *testing.T) {
	r := rand.New(rand.NewSource(14))
	for range 2000 {
		s := strs(texts(someTree(r))...)
		if r.Intn(2) == 0 {
			s = someBytes(r, s)
		}
		reader := parse.New()
		for at := 0; at < len(s); {
			n := min(r.Intn(1+r.Intn(200)), len(s)-at)
			if e := reader.Feed(s[at : at+n]); e != fed(s[:at+n]) {
				t.Fatalf("11.2: Feed up to byte %d of %s: %v", at+n, tail(s), e)
			}
			at += n
		}
		l, e := get(s)
		if got, err := reader.End(); err != e || !slices.Equal(got, l) {
			t.Fatalf("11.2: End of %s: %s, %v", tail(s), brief(got), err)
		}
	}
}

// Pieces that end at each byte, so that each is cut in two, and in three.
func TestFeedCut(t *testing.T) {
	s := strs(texts(all())...)
	for i := range len(s) + 1 {
		for _, k := range []int{i, min(i+1, len(s)), min(i+7, len(s)), min(i+8, len(s)), min(i+100, len(s))} {
			r := parse.New()
			if a, b, c := r.Feed(s[:i]), r.Feed(s[i:k]), r.Feed(s[k:]); a != api.OK || b != api.OK || c != api.OK {
				t.Fatal("11.2: Feed cut at", i, k, a, b, c)
			}
			if got, e := r.End(); e != api.OK || !slices.Equal(got, all()) {
				t.Fatal("11.2: End of what was cut at", i, k, brief(got), e)
			}
		}
	}
}

func TestFeedOfNothing(t *testing.T) {
	s := strs(texts(all())...)
	r := parse.New()
	nothing := func(want api.Errno) {
		t.Helper()
		for range 3 {
			if e := r.Feed(""); e != want {
				t.Error("11.2: Feed of nothing:", e)
			}
		}
	}
	nothing(api.OK)
	if l, e := r.End(); l != nil || e != api.ErrMore {
		t.Error("11.2: End of nothing:", l, e)
	}
	for i := range s {
		nothing(api.OK)
		r.Feed(s[i : i+1])
	}
	nothing(api.OK)
	if l, e := r.End(); e != api.OK || !slices.Equal(l, all()) {
		t.Error("11.2: End of a tree:", brief(l), e)
	}
	r.Feed("x")
	nothing(api.ErrForm)
	if l, e := r.End(); l != nil || e != api.ErrForm {
		t.Error("11.2: End behind:", l, e)
	}
}

// Great pieces, and very many small ones, take no more time than their bytes do.
func TestFeedOfMuch(t *testing.T) {
	l := in()
	for i := range api.MaxNodes - 1 {
		l = append(l, file(fmt.Sprint(1000+i), strings.Repeat(string([]byte{byte(i)}), api.MaxData-i%9)))
	}
	s := strs(texts(l)...)
	for _, n := range []int{len(s), 1 << 20, 4097, 64} {
		r := parse.New()
		for at := 0; at < len(s); at += n {
			if e := r.Feed(s[at:min(at+n, len(s))]); e != api.OK {
				t.Fatal("11.2: Feed by", n, e)
			}
		}
		if got, e := r.End(); e != api.OK || !slices.Equal(got, l) {
			t.Error("11.2: End behind pieces of", n, brief(got), e)
		}
	}
	l = l[:64]
	s = strs(texts(l)...)
	r := parse.New()
	for i := range len(s) {
		if e := r.Feed(s[i : i+1]); e != api.OK {
			t.Fatal("11.2: Feed by one", e)
		}
	}
	if got, e := r.End(); e != api.OK || !slices.Equal(got, l) {
		t.Error("11.2: End behind single bytes", brief(got), e)
	}
}

// A reader to which wrong bytes came tells so, whatever comes behind them.
func TestFeedOfWrongBytes(t *testing.T) {
	good := strs(texts(all())...)
	for _, c := range spots() {
		for _, wrong := range []string{size(uint64(c.most) + 1), size(math.MaxUint64), strs(strings.Repeat("/", c.most+1)), size(1 << 63)} {
			r := parse.New()
			if e := r.Feed(c.ahead); e != api.OK {
				t.Fatal("the test's own:", tail(c.ahead), e)
			}
			if e := r.Feed(wrong[:7]); e != api.OK {
				t.Error("11.2: Feed of seven bytes:", e)
			}
			for _, s := range []string{wrong[7:], "", "x", "\x00", good, c.may[0], good} {
				if e := r.Feed(s); e != api.ErrForm {
					t.Errorf("11.2: Feed of %s behind wrong bytes: %v", tail(s), e)
				}
				if l, e := r.End(); l != nil || e != api.ErrForm {
					t.Errorf("11.2: End behind wrong bytes: %s, %v", brief(l), e)
				}
			}
		}
	}
}

func TestFeedBehindTheEnd(t *testing.T) {
	for _, l := range trees() {
		r := parse.New()
		for _, c := range []struct {
			s string
			e api.Errno
		}{{strs(texts(l)...), api.OK}, {"", api.OK}, {"\x00", api.ErrForm}, {"", api.ErrForm}, {strs(texts(l)...), api.ErrForm}} {
			if e := r.Feed(c.s); e != c.e {
				t.Errorf("11.2: Feed of %s behind a tree: %v", tail(c.s), e)
			}
			if got, e := r.End(); e != c.e || e == api.OK && !slices.Equal(got, l) || e != api.OK && got != nil {
				t.Errorf("11.2: End behind a tree: %s, %v", brief(got), e)
			}
		}
	}
}

// End may be asked at any time, and changes nothing.
func TestEndAmid(t *testing.T) {
	s := strs(texts(all())...)
	r := parse.New()
	for i := range s {
		if l, e := r.End(); l != nil || e != api.ErrMore {
			t.Fatal("11.2: End of", i, "bytes:", brief(l), e)
		}
		r.Feed(s[i : i+1])
	}
	for range 3 {
		if l, e := r.End(); e != api.OK || !slices.Equal(l, all()) {
			t.Error("11.2: End:", brief(l), e)
		}
	}
}

func TestMethodsOfNil(t *testing.T) {
	var r *parse.Reader
	for _, s := range []string{"", "x", "\xff\xff\xff\xff\xff\xff\xff\xff", strs(texts(all())...)} {
		if e := r.Feed(s); e != api.ErrNone {
			t.Error("11.2: Feed of nil:", e)
		}
		if l, e := r.End(); l != nil || e != api.ErrNone {
			t.Error("11.2: End of nil:", l, e)
		}
	}
}

// A reader that New did not make is one to which nothing came.
func TestReaderOfNoNew(t *testing.T) {
	var r parse.Reader
	if l, e := r.End(); l != nil || e != api.ErrMore {
		t.Error("11.2: End of a reader that New did not make:", l, e)
	}
	if e := r.Feed(strs(texts(all())...)); e != api.OK {
		t.Error("11.2: Feed of a reader that New did not make:", e)
	}
	if l, e := r.End(); e != api.OK || !slices.Equal(l, all()) {
		t.Error("11.2: End of a reader that New did not make:", brief(l), e)
	}
}

// 11.3

// there holds Get of Pack of l.
func there(t *testing.T, l []api.Node) {
	t.Helper()
	s, e := nar.Pack(l)
	if e != api.OK {
		t.Fatal("the test's own:", brief(l), e)
	}
	if got, e := parse.Get(s); e != api.OK || !nar.Same(got, l) {
		t.Errorf("11.3: Get of Pack of %s: %s, %v", brief(l), brief(got), e)
	}
}

// back holds Pack of Get of s, if there is one.
func back(t *testing.T, s string) bool {
	t.Helper()
	l, e := parse.Get(s)
	if e != api.OK {
		return false
	}
	if !nar.May(l) {
		t.Errorf("11.3: Get of %s may not be: %s", tail(s), brief(l))
	}
	if again, e := nar.Pack(l); e != api.OK || again != s {
		t.Errorf("11.3: Pack of Get of %s: %s, %v", tail(s), tail(again), e)
	}
	return true
}

func TestGetOfPack(t *testing.T) {
	for _, l := range append(trees(), greatTrees()...) {
		there(t, l)
	}
	r := rand.New(rand.NewSource(15))
	for range 5000 {
		there(t, someTree(r))
	}
}

func TestPackOfGet(t *testing.T) {
	r := rand.New(rand.NewSource(16))
	n := 0
	for range 20000 {
		l := texts(someTree(r))
		if !back(t, strs(l...)) {
			t.Fatal("11.3: the bytes of a tree are none")
		}
		if back(t, strs(someTexts(r, l)...)) {
			n++
		}
		if back(t, someBytes(r, strs(l...))) {
			n++
		}
	}
	if n < 100 {
		t.Error("the test's own: turned bytes are those of a tree", n, "times")
	}
}

// No other bytes are read as the same tree.
func TestNoOtherBytes(t *testing.T) {
	for _, l := range trees() {
		s := strs(texts(l)...)
		for i := range s {
			for _, b := range []byte{s[i] ^ 1, s[i] ^ 128, 0, 255} {
				other := s[:i] + string([]byte{b}) + s[i+1:]
				if got, e := parse.Get(other); e == api.OK && other != s && slices.Equal(got, l) {
					t.Errorf("11.3: %s is read as %s, too", tail(other), brief(l))
				}
				back(t, other)
			}
		}
	}
}

// Rules of all calls

// R1
func TestNothingPanics(t *testing.T) {
	r := rand.New(rand.NewSource(17))
	for range 8000 {
		b := make([]byte, r.Intn(200))
		for i := range b {
			b[i] = byte(r.Intn(256)) & byte(-r.Intn(2)) & byte(-r.Intn(2))
		}
		agree(t, string(b))
		l := make([]string, r.Intn(20))
		for i := range l {
			l[i] = words()[r.Intn(len(words()))]
		}
		agree(t, strs(l...))
		c := spots()[r.Intn(len(spots()))]
		agree(t, c.ahead+string(b))
		agree(t, c.ahead+strs(l...))
	}
}

// apart: a and b share no memory.
func apart(a, b string) bool {
	if a == "" || b == "" {
		return true
	}
	x, y := uintptr(unsafe.Pointer(unsafe.StringData(a))), uintptr(unsafe.Pointer(unsafe.StringData(b)))
	return x+uintptr(len(a)) <= y || y+uintptr(len(b)) <= x
}

// R3: what is told is new memory, and what is handed in is not kept.
func TestNothingIsShared(t *testing.T) {
	l := in(dir("directory"), file("directory/of a long name", "data of a file"), link("link", "target of a link"), exec("run", "data of another"))
	s := strings.Clone(strs(texts(l)...))
	r := parse.New()
	if e := r.Feed(s); e != api.OK {
		t.Fatal("11.2: Feed:", e)
	}
	one, _ := parse.Get(s)
	two, _ := parse.Get(s)
	first, _ := r.End()
	second, _ := r.End()
	lists := [][]api.Node{one, two, first, second}
	for i, got := range lists {
		if !slices.Equal(got, l) {
			t.Fatal("11.1:", brief(got))
		}
		for _, node := range got {
			if !apart(node.Path, s) || !apart(node.Data, s) {
				t.Errorf("R3: answer %d shares %q with what was handed in", i, node.Path)
			}
		}
	}
	for i, got := range lists {
		for k := range got {
			got[k] = api.Node{Path: "other", Kind: 9, Data: "other"}
		}
		full := got[:cap(got)]
		for k := range full {
			full[k] = api.Node{Path: "spare", Kind: 8}
		}
		for k, other := range lists {
			if k > i && !slices.Equal(other, l) {
				t.Errorf("R3: answer %d shares memory with answer %d", k, i)
			}
		}
	}
	if got, e := r.End(); e != api.OK || !slices.Equal(got, l) {
		t.Error("R3: End behind answers that were written into:", brief(got), e)
	}
}

// R5
func TestTwoReaders(t *testing.T) {
	r := rand.New(rand.NewSource(18))
	for range 200 {
		a, b := strs(texts(someTree(r))...), someBytes(r, strs(texts(someTree(r))...))
		x, y, again := parse.New(), parse.New(), parse.New()
		for i := range max(len(a), len(b)) {
			if i < len(a) {
				if e, f := x.Feed(a[i:i+1]), again.Feed(a[i:i+1]); e != api.OK || f != api.OK {
					t.Fatal("R5: Feed of one:", e, f)
				}
			}
			if i < len(b) {
				if e := y.Feed(b[i : i+1]); e != fed(b[:i+1]) {
					t.Fatal("R5: Feed of the other:", e)
				}
			}
		}
		for s, readers := range map[string][]*parse.Reader{a: {x, again}, b: {y}} {
			l, e := get(s)
			for _, reader := range readers {
				if got, err := reader.End(); err != e || !slices.Equal(got, l) {
					t.Fatal("R5: End:", brief(got), err)
				}
			}
		}
	}
}
