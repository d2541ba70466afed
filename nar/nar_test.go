package nar_test

import (
	"crypto/sha256"
	"encoding/base64"
	"fmt"
	"math"
	"math/rand"
	"slices"
	"strings"
	"testing"
	"unsafe"

	"shelfmark/api"
	"shelfmark/nar"
)

const (
	nobody = api.KFile - 1 // the kind ahead of all that there are
	beyond = api.KDir + 1  // the one behind them
)

func file(path, data string) api.Node { return api.Node{Path: path, Kind: api.KFile, Data: data} }
func exec(path, data string) api.Node { return api.Node{Path: path, Kind: api.KExec, Data: data} }
func link(path, data string) api.Node { return api.Node{Path: path, Kind: api.KLink, Data: data} }
func dir(path string) api.Node        { return api.Node{Path: path, Kind: api.KDir} }

func only(node api.Node) []api.Node { return []api.Node{node} }

// in is a directory with these nodes.
func in(l ...api.Node) []api.Node { return append(only(dir("")), l...) }

// all is a small tree of all kinds.
func all() []api.Node {
	return in(dir("a"), dir("a/b"), link("a/b/c", "../t"), exec("a/x", "run"), file("a-", "12345678"), dir("b"), file("c", ""))
}

func brief(l []api.Node) string {
	var b strings.Builder
	for i, node := range l {
		if i == 12 {
			b.WriteString(" ..")
			break
		}
		fmt.Fprintf(&b, " {%.60q %d %.20q}", node.Path, node.Kind, node.Data)
	}
	return fmt.Sprintf("%d nodes:%s", len(l), b.String())
}

// want holds May and Pack of l against what the chapter's words tell of it.
func want(t *testing.T, l []api.Node, ok bool) {
	t.Helper()
	if may(l) != ok {
		t.Errorf("the test's own: %s", brief(l))
	}
	if got := nar.May(l); got != ok {
		t.Errorf("10.1: May of %s: %v", brief(l), got)
	}
	s, e := nar.Pack(l)
	if !ok {
		if s != "" || e != api.ErrArg {
			t.Errorf("10.2: Pack of %s: %.80q, %v", brief(l), s, e)
		}
		return
	}
	if e != api.OK || s != pack(l) {
		t.Errorf("10.2: Pack of %s: %.400q, %v", brief(l), s, e)
	} else if !slices.Equal(unpack(s), l) {
		t.Errorf("10.3: Pack of %s is read as %s", brief(l), brief(unpack(s)))
	}
}

// 10.1

func TestMayName(t *testing.T) {
	long := strings.Repeat("n", 254)
	for s, ok := range map[string]bool{
		"a": true, "ab": true, long: true, long + "n": true, long + ".": true, strings.Repeat("\u00e4", 127) + "\xff": true,
		"": false, long + "nn": false, long + "n/": false, strings.Repeat("\u00e4", 128): false, strings.Repeat("n", 1<<16): false,
		".": false, "..": false, "...": true, "....": true, ".a": true, "a.": true, "..a": true, "a..": true, ". ": true, " .": true, ".\n": true,
		"\x00": false, "\x00a": false, "a\x00": false, "a\x00b": false, long + "\x00": false, "\x00" + long: false,
		"/": false, "/a": false, "a/": false, "a/b": false, "//": false, "./": false, "../": false, "/.": false, long + "/": false, "/" + long: false,
		"\\": true, "\xff": true, "\xc0\xaf": true, "\xc0\x80": true, "\u2044": true, "\u2215": true, "\r\n": true, "*?:|<>": true, "-rf": true,
	} {
		if mayName(s) != ok {
			t.Errorf("the test's own: %.80q", s)
		}
		if got := nar.MayName(s); got != ok {
			t.Errorf("10.1: MayName(%.80q), %d bytes: %v", s, len(s), got)
		}
		want(t, in(file(s, "data")), ok)
	}
}

// Each byte alone, and at the beginning, amid and at the end of a name.
func TestMayNameOfEachByte(t *testing.T) {
	for c := range 256 {
		one := string([]byte{byte(c)})
		for _, s := range []string{one, one + "ab", "a" + one + "b", "ab" + one, "abcdefgh" + one + "abcdefgh", one + one} {
			if ok := mayName(s); nar.MayName(s) != ok || c != '.' && ok != (c != 0 && c != '/') {
				t.Errorf("10.1: MayName(%q): %v", s, !ok)
			}
		}
	}
}

func TestMayNameOfEachLength(t *testing.T) {
	for n := range 600 {
		for _, c := range []string{"n", "\xff", "."} {
			if s := strings.Repeat(c, n); nar.MayName(s) != (n >= 1 && n <= api.MaxName && !(c == "." && n <= 2)) {
				t.Errorf("10.1: MayName of %d bytes %q", n, c)
			}
		}
	}
}

func TestNoNodes(t *testing.T) {
	want(t, nil, false)
	want(t, []api.Node{}, false)
	want(t, all()[:0], false)
}

func TestOneNode(t *testing.T) {
	for _, l := range [][]api.Node{in(), only(file("", "x")), only(file("", "")), only(exec("", "x")), only(exec("", "")), only(link("", "x")), all()} {
		want(t, l, true)
		for _, path := range []string{"a", "/", ".", "\x00", " ", "a/b"} {
			other := slices.Clone(l)
			other[0].Path = path
			want(t, other, false)
		}
	}
}

func TestManyNodes(t *testing.T) {
	l, deep := in(), in(dir("d"))
	for i := range 600 {
		l = append(l, file(fmt.Sprint(1000+i), ""))
		deep = append(deep, file(fmt.Sprint("d/", 1000+i), ""))
	}
	for _, n := range []int{1, 2, 3, 127, 128, 129, 254, 255, 256, 257, 258, 300, 512, 513, 600} {
		want(t, l[:n], n <= api.MaxNodes)
	}
	want(t, deep[:api.MaxNodes], true)
	want(t, deep[:api.MaxNodes+1], false)
	want(t, append(l[:api.MaxNodes-1:api.MaxNodes-1], dir("z")), true)
	want(t, append(l[:api.MaxNodes:api.MaxNodes], dir("z")), false)
	want(t, make([]api.Node, 1<<16), false)
}

// chain is n directories, each in the one ahead of it.
func chain(n int, name string) []api.Node {
	l, path := in(), ""
	for range n {
		path = strings.TrimPrefix(path+"/"+name, "/")
		l = append(l, dir(path))
	}
	return l
}

func TestDepth(t *testing.T) {
	for _, name := range []string{"d", "\xff", strings.Repeat("n", api.MaxName)} {
		for _, n := range []int{1, 2, api.MaxDepth - 1, api.MaxDepth} {
			want(t, chain(n, name), true)
			want(t, append(chain(n, name), file(name+"x", "")), len(name) < api.MaxName)
		}
		for _, n := range []int{api.MaxDepth + 1, api.MaxDepth + 2, 100, 200} {
			want(t, chain(n, name), false)
		}
	}
	path := strings.Repeat("d/", api.MaxDepth)
	for _, node := range []api.Node{file(path+"x", ""), link(path+"x", "t"), exec(path+"x", ""), dir(path + "x")} {
		want(t, append(chain(api.MaxDepth, "d"), node), false)
		node.Path = path[2:] + "x"
		want(t, append(chain(api.MaxDepth, "d"), node), true)
	}
	// From the deepest directory back to the root, two more nodes on each level.
	wide := chain(api.MaxDepth, "d")
	for n := api.MaxDepth - 1; n >= 0; n-- {
		wide = append(wide, dir(path[:2*n]+"e"), file(path[:2*n]+"f", "x"))
	}
	want(t, wide, true)
}

func TestData(t *testing.T) {
	full := strings.Repeat("\x00", api.MaxData)
	for _, of := range []func(string, string) api.Node{file, exec} {
		for _, c := range []struct {
			data string
			ok   bool
		}{
			{"", true}, {"\x00", true}, {full[1:], true}, {full, true}, {full + "x", false}, {full + full, false}, {full[:4097], true},
		} {
			want(t, only(of("", c.data)), c.ok)
			want(t, in(of("a", c.data)), c.ok)
			want(t, in(dir("a"), of("a/b", c.data), of("c", "")), c.ok)
		}
	}
	for _, data := range []string{"x", "\x00", full, full + "x"} {
		node := dir("")
		node.Data = data
		want(t, only(node), false)
		want(t, append(only(node), dir("a")), false)
		node.Path = "a"
		want(t, in(node), false)
		want(t, in(node, file("b", "")), false)
	}
}

func TestLink(t *testing.T) {
	most := strings.Repeat("t", 4096)
	for _, c := range []struct {
		data string
		ok   bool
	}{
		{"", false}, {"t", true}, {most[1:], true}, {most, true}, {most + "t", false}, {strings.Repeat("t", api.MaxData), false},
		{strings.Repeat("t", api.MaxData+1), false}, {"\x00", false}, {"\x00t", false}, {"t\x00", false}, {"t\x00t", false},
		{most[1:] + "\x00", false}, {"\x00" + most[1:], false}, {"/", true}, {".", true}, {"..", true}, {"../../x//y/", true},
		{"\xff\n\x01", true}, {strings.Repeat("\u00e4", 2048), true}, {strings.Repeat("\u00e4", 2048) + "a", false},
	} {
		want(t, only(link("", c.data)), c.ok)
		want(t, in(link("a", c.data)), c.ok)
		want(t, in(dir("a"), link("a/b", c.data), file("c", "")), c.ok)
	}
}

func TestKinds(t *testing.T) {
	for kind := -300; kind <= 300; kind++ {
		ok := kind == api.KFile || kind == api.KExec || kind == api.KLink || kind == api.KDir
		for _, data := range []string{"", "t"} {
			ok := ok && (kind != api.KLink || data != "") && (kind != api.KDir || data == "")
			want(t, only(api.Node{Kind: kind, Data: data}), ok)
			want(t, in(api.Node{Path: "a", Kind: kind, Data: data}), ok)
			want(t, in(dir("a"), api.Node{Path: "a/b", Kind: kind, Data: data}, file("a/c", "")), ok)
		}
	}
	for _, kind := range []int{math.MinInt, math.MaxInt, nobody, beyond, 1 << 8, 1<<8 + 1, 1<<32 + 1, 1<<32 + 4, math.MinInt + 1} {
		want(t, only(api.Node{Kind: kind}), false)
		want(t, in(file("a", ""), api.Node{Path: "b", Kind: kind}), false)
	}
}

func TestPaths(t *testing.T) {
	long := strings.Repeat("n", api.MaxName)
	for path, ok := range map[string]bool{
		"a/x": true, "a/" + long: true, "a/...": true, "a/\xff": true, "b": true, "a0": true, long: true,
		"": false, "/": false, "//": false, "/a": false, "a/": false, "a//": false, "a//x": false, "/a/x": false, "a/x/": false, "//a": false,
		".": false, "..": false, "a/.": false, "a/..": false, "./a": false, "../a": false, "a/./x": false, "a/../x": false, "./x": false,
		"a/\x00": false, "a/x\x00": false, "a\x00": false, "\x00/x": false, "a/" + long + "n": false, long + "n": false,
		"b/x": false, "a/x/y": false, "a.b/x": false, "A/x": false, "a": false, "0": false, "\x01": false, "a ": true, "/b": false, "b/": false,
		strings.Repeat("/", 1<<20): false, strings.Repeat("x/", 1<<20): false, "a/" + strings.Repeat("x", 1<<20): false,
	} {
		for _, node := range []api.Node{file(path, "x"), dir(path), link(path, "t"), exec(path, "")} {
			want(t, in(dir("a"), node), ok)
			want(t, in(dir("a"), dir("a/-"), file("a/-/b", ""), node), ok)
		}
		// Below what is no directory nothing stands.
		want(t, in(file("a", ""), file(path, "x")), ok && !strings.HasPrefix(path, "a/"))
		want(t, in(link("a", "t"), file(path, "x")), ok && !strings.HasPrefix(path, "a/"))
		want(t, in(exec("a", "t"), file(path, "x")), ok && !strings.HasPrefix(path, "a/"))
		// Nor in a root that is none.
		want(t, []api.Node{file("", ""), file(path, "x")}, false)
		want(t, []api.Node{exec("", ""), dir("a"), file(path, "x")}, false)
		want(t, []api.Node{link("", "t"), file(path, "x")}, false)
	}
}

func TestOrder(t *testing.T) {
	f := func(path string) api.Node { return file(path, "") }
	for _, c := range []struct {
		l  []api.Node
		ok bool
	}{
		// Directories that are not there, stand behind, or are none.
		{in(f("a/b")), false}, {in(f("a/b"), dir("a")), false}, {in(dir("b"), f("a/b")), false}, {in(f("b"), f("a/b"), dir("a")), false},
		{in(dir("a"), f("a/b/c"), dir("a/b")), false}, {in(dir("a"), f("a/b/c")), false}, {in(dir("a"), f("a/b"), f("a/b/c")), false},
		{in(dir("a"), dir("a/b"), dir("b"), f("b/b/c")), false}, {in(dir("a"), dir("a/b"), f("a/c"), f("a/c/d")), false},
		{in(dir("a"), dir("a/b"), f("b/c")), false}, {in(dir("a"), dir("a/b"), f("a/b/c/d")), false},
		// Names that do not rise.
		{in(f("b"), f("a")), false}, {in(f("a"), f("a")), false}, {in(dir("a"), dir("a")), false}, {in(dir("a"), f("a")), false},
		{in(f("a"), f("b"), f("c")), true}, {in(f("a"), f("c"), f("b")), false}, {in(f("a"), f("b"), f("a")), false},
		{in(f("b"), f("c"), f("a")), false}, {in(f("\xff"), f("a")), false}, {in(f("a"), f("\xff")), true}, {in(f("\x7f"), f("\x80")), true},
		{in(f("a"), f("B")), false}, {in(f("B"), f("a")), true}, {in(f("10"), f("9")), true}, {in(f("9"), f("10")), false},
		{in(f("a"), f("ab")), true}, {in(f("ab"), f("a")), false}, {in(f("\u00e4"), f("z")), false}, {in(f("z"), f("\u00e4")), true},
		{in(f("e"), f("e\u0301"), f("\u00e9")), true}, {in(f("\uffff"), f("\U00010000")), true}, {in(f("\xc3\x28"), f("\xc3\xa4")), true},
		{in(dir("a"), f("a/x"), dir("a"), f("a/y")), false}, {in(dir("a"), f("a/x"), f("a/x")), false}, {in(dir("a"), f("a/y"), f("a/x")), false},
		{in(dir("a"), dir("a/y"), f("a/y/a"), f("a/x")), false}, {in(dir("a"), dir("a/y"), f("a/y/a"), dir("a/y")), false},
		{in(dir("a"), dir("a/y"), f("a/y/a"), f("a/z")), true}, {in(dir("a"), dir("a/y"), f("a/y/z"), f("a/z")), true},
		{in(dir("b"), f("b/c"), f("a")), false}, {in(dir("b"), f("b/a"), f("b")), false}, {in(dir("b"), f("b/z"), f("c")), true},
		// Last names are held against one another, not paths: a stroke is above `-`.
		{in(dir("a"), f("a/x"), f("a-")), true}, {in(dir("a"), f("a-"), f("a/x")), false}, {in(f("a-"), dir("a"), f("a/x")), false},
		{in(f("a-"), dir("a")), false}, {in(dir("a"), f("a/x"), f("a0")), true}, {in(dir("a"), f("a/\xff"), f("a\x01")), true},
		{in(dir("a"), dir("a/b"), f("a/b/c"), f("a/b."), f("a.")), true}, {in(dir("a"), dir("a/b"), f("a/b."), f("a/b/c"), f("a.")), false},
		// Behind all that is below the one ahead.
		{in(dir("a"), f("b"), f("a/x")), false}, {in(dir("a"), dir("b"), f("a/x"), f("b/x")), false}, {in(dir("a"), f("a/x"), f("b"), f("a/y")), false},
		{in(dir("a"), dir("a/b"), dir("a/c"), f("a/b/x")), false}, {in(dir("a"), dir("a/b"), f("b"), f("a/b/x")), false},
		{in(dir("a"), dir("a/b"), dir("a/b/c"), f("a/d"), f("e")), true}, {in(dir("a"), dir("a/b"), dir("a/b/c"), f("e")), true},
		{in(dir("a"), dir("a/b"), dir("a/b/c"), f("e"), f("a/d")), false}, {in(dir("a"), dir("b"), dir("b/c"), f("a/d")), false},
		{in(dir("a"), f("a/b"), dir("ab"), f("ab/a")), true}, {in(dir("a"), dir("ab"), f("a/b")), false}, {in(dir("ab"), f("a/b")), false},
		// A root anywhere but at the beginning.
		{in(dir("")), false}, {in(f("")), false}, {in(dir("a"), dir("")), false}, {in(dir("a"), f("a/b"), f("")), false},
		{append(only(f("a")), in()...), false},
	} {
		want(t, c.l, c.ok)
	}
}

// Every list of a root and up to five nodes of some few.
func TestEveryOrder(t *testing.T) {
	nodes := []api.Node{dir("a"), file("a", ""), dir("a/b"), file("a/a", ""), file("a-", ""), dir("b"), file("a/b/a", ""), dir("b/a")}
	yes := 0
	var grow func(l []api.Node)
	grow = func(l []api.Node) {
		if ok := may(l); nar.May(l) != ok {
			t.Errorf("10.1: May of %s: %v", brief(l), !ok)
		} else if ok {
			yes++
		}
		if len(l) > 5 {
			return
		}
		for _, node := range nodes {
			grow(append(l[:len(l):len(l)], node))
		}
	}
	grow(in())
	if yes < 40 {
		t.Error("the test's own:", yes)
	}
}

// 10.2

func TestWord(t *testing.T) {
	for n, want := range map[int]string{
		0: "\x00\x00\x00\x00\x00\x00\x00\x00", 1: "\x01\x00\x00\x00\x00\x00\x00\x00", 127: "\x7f\x00\x00\x00\x00\x00\x00\x00",
		128: "\x80\x00\x00\x00\x00\x00\x00\x00", 255: "\xff\x00\x00\x00\x00\x00\x00\x00", 256: "\x00\x01\x00\x00\x00\x00\x00\x00",
		257: "\x01\x01\x00\x00\x00\x00\x00\x00", 65535: "\xff\xff\x00\x00\x00\x00\x00\x00", 65536: "\x00\x00\x01\x00\x00\x00\x00\x00",
		1<<31 - 1: "\xff\xff\xff\x7f\x00\x00\x00\x00", 1 << 31: "\x00\x00\x00\x80\x00\x00\x00\x00", 1<<32 - 1: "\xff\xff\xff\xff\x00\x00\x00\x00",
		1 << 32: "\x00\x00\x00\x00\x01\x00\x00\x00", 0x0807060504030201: "\x01\x02\x03\x04\x05\x06\x07\x08",
		math.MaxInt: "\xff\xff\xff\xff\xff\xff\xff\x7f", math.MaxInt - 1: "\xfe\xff\xff\xff\xff\xff\xff\x7f", 1 << 62: "\x00\x00\x00\x00\x00\x00\x00\x40",
		-1: "\x00\x00\x00\x00\x00\x00\x00\x00", -5: "\x00\x00\x00\x00\x00\x00\x00\x00", -256: "\x00\x00\x00\x00\x00\x00\x00\x00",
		math.MinInt: "\x00\x00\x00\x00\x00\x00\x00\x00", math.MinInt + 1: "\x00\x00\x00\x00\x00\x00\x00\x00",
	} {
		if got := nar.Word(n); got != want {
			t.Errorf("10.2: Word(%d): %q, want %q", n, got, want)
		}
	}
	for bit := range 63 {
		want := make([]byte, 8)
		want[bit/8] = 1 << (bit % 8)
		if got := nar.Word(1 << bit); got != string(want) {
			t.Errorf("10.2: Word of bit %d: %q", bit, got)
		}
	}
}

func TestStr(t *testing.T) {
	const nought = "\x00\x00\x00\x00\x00\x00\x00"
	for s, want := range map[string]string{
		"": "\x00" + nought, "(": "\x01" + nought + "(" + nought, "1234567": "\x07" + nought + "1234567\x00",
		"12345678": "\x08" + nought + "12345678", "123456789": "\x09" + nought + "123456789" + nought,
		"\x00": "\x01" + nought + "\x00" + nought, "\u00e4": "\x02" + nought + "\xc3\xa4\x00\x00\x00\x00\x00\x00",
	} {
		if got := nar.Str(s); got != want {
			t.Errorf("10.2: Str(%q): %q, want %q", s, got, want)
		}
	}
	long := strings.Repeat("abc\x00\xff", 1<<14)
	for n := range 300 {
		if got := nar.Str(long[:n]); got != str(long[:n]) || len(got)%8 != 0 {
			t.Errorf("10.2: Str of %d bytes: %q", n, got)
		}
	}
	for n := len(long) - 10; n <= len(long); n++ {
		if nar.Str(long[:n]) != str(long[:n]) {
			t.Errorf("10.2: Str of %d bytes", n)
		}
	}
}

// What others pack so, told by its hash.
func TestKnownPackings(t *testing.T) {
	for want, l := range map[string][]api.Node{
		"pQpattmS9VmO3ZIQUFn66az8GSmB4IvYhTTCFn6SUmo=": in(),
		"d6xi4mKdjkX2JFicDIv5niSzpyI0m/Hnm8GGAIU04kY=": only(file("", "")),
	} {
		s, _ := nar.Pack(l)
		if h := sha256.Sum256([]byte(s)); base64.StdEncoding.EncodeToString(h[:]) != want {
			t.Errorf("10.2: Pack of %s: %q", brief(l), s)
		}
	}
}

// A small tree of all kinds, byte by byte.
func TestPackOfBytes(t *testing.T) {
	const (
		open   = "\x01\x00\x00\x00\x00\x00\x00\x00(\x00\x00\x00\x00\x00\x00\x00"
		shut   = "\x01\x00\x00\x00\x00\x00\x00\x00)\x00\x00\x00\x00\x00\x00\x00"
		kind   = "\x04\x00\x00\x00\x00\x00\x00\x00type\x00\x00\x00\x00"
		folder = "\x09\x00\x00\x00\x00\x00\x00\x00directory\x00\x00\x00\x00\x00\x00\x00"
		plain  = "\x07\x00\x00\x00\x00\x00\x00\x00regular\x00"
		runs   = "\x0a\x00\x00\x00\x00\x00\x00\x00executable\x00\x00\x00\x00\x00\x00\x00\x00\x00\x00\x00\x00\x00\x00"
		leads  = "\x07\x00\x00\x00\x00\x00\x00\x00symlink\x00\x06\x00\x00\x00\x00\x00\x00\x00target\x00\x00"
		holds  = "\x08\x00\x00\x00\x00\x00\x00\x00contents"
		entry  = "\x05\x00\x00\x00\x00\x00\x00\x00entry\x00\x00\x00" + open + "\x04\x00\x00\x00\x00\x00\x00\x00name\x00\x00\x00\x00"
		node   = "\x04\x00\x00\x00\x00\x00\x00\x00node\x00\x00\x00\x00" + open + kind
		magic  = "\x0d\x00\x00\x00\x00\x00\x00\x00nix-archive-1\x00\x00\x00"
	)
	got, e := nar.Pack(all())
	if e != api.OK || got != magic+open+kind+folder+
		entry+"\x01\x00\x00\x00\x00\x00\x00\x00a\x00\x00\x00\x00\x00\x00\x00"+node+folder+
		entry+"\x01\x00\x00\x00\x00\x00\x00\x00b\x00\x00\x00\x00\x00\x00\x00"+node+folder+
		entry+"\x01\x00\x00\x00\x00\x00\x00\x00c\x00\x00\x00\x00\x00\x00\x00"+node+leads+
		"\x04\x00\x00\x00\x00\x00\x00\x00../t\x00\x00\x00\x00"+shut+shut+shut+shut+
		entry+"\x01\x00\x00\x00\x00\x00\x00\x00x\x00\x00\x00\x00\x00\x00\x00"+node+plain+runs+holds+
		"\x03\x00\x00\x00\x00\x00\x00\x00run\x00\x00\x00\x00\x00"+shut+shut+shut+shut+
		entry+"\x02\x00\x00\x00\x00\x00\x00\x00a-\x00\x00\x00\x00\x00\x00"+node+plain+holds+
		"\x08\x00\x00\x00\x00\x00\x00\x0012345678"+shut+shut+
		entry+"\x01\x00\x00\x00\x00\x00\x00\x00b\x00\x00\x00\x00\x00\x00\x00"+node+folder+shut+shut+
		entry+"\x01\x00\x00\x00\x00\x00\x00\x00c\x00\x00\x00\x00\x00\x00\x00"+node+plain+holds+
		"\x00\x00\x00\x00\x00\x00\x00\x00"+shut+shut+shut {
		t.Errorf("10.2: Pack of all kinds: %q, %v", got, e)
	}
}

func TestPackOfRoots(t *testing.T) {
	head := strs("nix-archive-1", "(", "type")
	for _, c := range []struct {
		l    []api.Node
		want string
	}{
		{in(), strs("directory", ")")},
		{only(file("", "")), strs("regular", "contents", "", ")")},
		{only(file("", "hello")), strs("regular", "contents", "hello", ")")},
		{only(file("", ")")), strs("regular", "contents", ")", ")")},
		{only(exec("", "")), strs("regular", "executable", "", "contents", "", ")")},
		{only(exec("", "x")), strs("regular", "executable", "", "contents", "x", ")")},
		{only(link("", "/t")), strs("symlink", "target", "/t", ")")},
		{in(dir("a")), strs("directory", "entry", "(", "name", "a", "node", "(", "type", "directory", ")", ")", ")")},
	} {
		if got, e := nar.Pack(c.l); e != api.OK || got != head+c.want {
			t.Errorf("10.2: Pack of %s: %q, %v", brief(c.l), got, e)
		}
	}
}

// A tree of as many nodes, as deep, with as much data as may be.
func TestPackOfMuch(t *testing.T) {
	l := chain(api.MaxDepth, "d")
	below := l[len(l)-2].Path + "/"
	for i := len(l); i < api.MaxNodes; i++ {
		name := fmt.Sprintf("e%0254d", i)
		l = append(l, exec(below+name, strings.Repeat(string([]byte{byte(i)}), api.MaxData)))
	}
	want(t, l, true)
}

func TestSame(t *testing.T) {
	a, b := all(), all()
	same := func(a, b []api.Node, ok bool) {
		t.Helper()
		if nar.Same(a, b) != ok || nar.Same(b, a) != ok {
			t.Errorf("10.2: Same of %s and %s: %v", brief(a), brief(b), !ok)
		}
	}
	same(a, a, true)
	same(a, b, true)
	same(nil, nil, true)
	same(nil, []api.Node{}, true)
	same(a[:0], nil, true)
	same(a, nil, false)
	same(only(api.Node{}), nil, false)
	same(only(api.Node{}), only(api.Node{}), true)
	for i := range a {
		for _, turn := range []func(*api.Node){
			func(node *api.Node) { node.Path += "x" },
			func(node *api.Node) { node.Path = "/" + node.Path },
			func(node *api.Node) { node.Kind++ },
			func(node *api.Node) { node.Kind -= 1 << 32 },
			func(node *api.Node) { node.Data += "\x00" },
			func(node *api.Node) { node.Data = "x" + node.Data },
			func(node *api.Node) { node.Path, node.Data = node.Path+"x", node.Data+"x" },
		} {
			other := slices.Clone(a)
			turn(&other[i])
			same(a, other, false)
			same(other, slices.Clone(other), true)
			same(a[:i], other[:i], true)
			same(a[i+1:], other[i+1:], true)
		}
		same(a, a[:i], false)
		same(a, slices.Insert(slices.Clone(a), i, a[i]), false)
		same(a, slices.Delete(slices.Clone(a), i, i+1), false)
		for k := range i {
			other := slices.Clone(a)
			other[i], other[k] = other[k], other[i]
			same(a, other, false)
		}
	}
	// Of lists that are no trees, too.
	same(only(file("a", "bc")), only(file("ab", "c")), false)
	same(only(file("\xff", "")), only(file("\ufffd", "")), false)
	same(only(file("a", "")), only(file("A", "")), false)
	same(only(file("e\u0301", "")), only(file("\u00e9", "")), false)
	same([]api.Node{dir("b"), dir("a")}, []api.Node{dir("b"), dir("a")}, true)
	same([]api.Node{dir("b"), dir("a")}, []api.Node{dir("a"), dir("b")}, false)
	same(make([]api.Node, 1<<16), make([]api.Node, 1<<16), true)
	same(make([]api.Node, 1<<16), make([]api.Node, 1<<16+1), false)
	many := make([]api.Node, 1<<16)
	many[1<<16-1].Kind = math.MinInt
	same(make([]api.Node, 1<<16), many, false)
}

// 10.3

// packings keeps each packing with the tree that has it.
type packings map[string][]api.Node

func (p packings) add(t *testing.T, l []api.Node) {
	t.Helper()
	s, e := nar.Pack(l)
	if e != api.OK {
		t.Errorf("10.2: Pack of %s: %v", brief(l), e)
		return
	}
	if other, ok := p[s]; ok && !nar.Same(l, other) {
		t.Errorf("10.3: one packing of %s and of %s", brief(l), brief(other))
	}
	p[s] = slices.Clone(l)
}

// Trees whose texts are what stands between them in others, and others that
// have the same bytes in other places.
func TestTwoTreesHaveTwoPackings(t *testing.T) {
	p := packings{}
	trees := 0
	words := []string{"a", "(", ")", "type", "node", "entry", "name", "contents", "regular", "executable", "directory", "target", "nix-archive-1"}
	for _, s := range append(words, "\x01", "a\x01", strs("a", ")"), strs(")", "entry", "(", "name", "b", "node", "(", "type", "directory", ")")) {
		var with []api.Node
		with = append(with, file("", s), exec("", s), file("", s+")"), file("", nar.Str(s)), exec("", nar.Str(s)), file("", s+"\x00"))
		for _, node := range with {
			p.add(t, only(node))
			node.Path = "a"
			p.add(t, in(node))
			p.add(t, in(dir("A"), node))
			node.Path = "A/a"
			p.add(t, in(dir("A"), node))
			trees += 4
		}
	}
	for i, s := range words {
		for _, l := range [][]api.Node{
			only(link("", s)), in(dir(s)), in(file(s, "")), in(exec(s, "")), in(link(s, "t")), in(dir(s), dir(s+"/x")), in(dir(s), dir(s+"x")),
			in(dir(s), dir(s+"/x"), dir(s+"/y")), in(dir(s), dir(s+"/x"), dir(s+"y")), in(dir(s), dir(s+"x"), dir(s+"y")),
			in(dir(s), dir(s+"/x"), dir(s+"/x/y")), in(dir(s), dir(s+"x"), dir(s+"x/y")), in(file(s, ""), file(s+"x", s)), in(file(s, s), file(s+"x", "")),
		} {
			p.add(t, l)
			trees++
		}
		for _, other := range words[i+1:] {
			l := []api.Node{file(s, other), file(other, s)}
			slices.SortFunc(l, func(a, b api.Node) int { return strings.Compare(a.Path, b.Path) })
			p.add(t, in(l...))
			trees++
		}
	}
	if len(p) != trees {
		t.Errorf("10.3: %d trees have %d packings", trees, len(p))
	}
}

func TestSomeTrees(t *testing.T) {
	r := rand.New(rand.NewSource(10))
	p, yes, no := packings{}, 0, 0
	for range 4000 {
		l := someTree(r)
		want(t, l, true)
		p.add(t, l)
		for range 1 + r.Intn(3) {
			if len(l) == 0 {
				break
			}
			l = spoil(r, l)
			ok := may(l)
			want(t, l, ok)
			if ok {
				p.add(t, l)
				yes++
			} else {
				no++
			}
		}
	}
	if yes < 400 || no < 4000 || len(p) < 3000 {
		t.Error("the test's own:", yes, no, len(p))
	}
}

// R1: every call ends without a panic, whatever it is given.
func TestAnythingEnds(t *testing.T) {
	texts := []string{"", "a", "b", "/", "a/b", "a//b", "..", "\x00", "\xff", "a/\xff", "a/..", strings.Repeat("a/", 100), strings.Repeat("a", 5000)}
	kinds := []int{math.MinInt, -1, 0, 1, 2, 3, 4, 5, math.MaxInt}
	r := rand.New(rand.NewSource(1))
	for range 20000 {
		l := in()
		if r.Intn(4) == 0 {
			l = nil
		}
		for range r.Intn(6) {
			l = append(l, api.Node{Path: texts[r.Intn(len(texts))], Kind: kinds[r.Intn(len(kinds))], Data: texts[r.Intn(len(texts))]})
		}
		want(t, l, may(l))
		if !nar.Same(l, slices.Clone(l)) {
			t.Errorf("10.2: Same of %s and the same", brief(l))
		}
	}
	huge := strings.Repeat("a", 1<<24)
	for _, l := range [][]api.Node{only(file(huge, "")), only(file("", huge)), in(file(huge, huge)), in(link("a", huge)), in(dir(huge + "/" + huge))} {
		want(t, l, false)
	}
	if nar.MayName(huge) || nar.Str(huge) != nar.Word(1<<24)+huge {
		t.Error("R1: of many bytes")
	}
}

// R3

// loose is s, and the bytes that it stands on.
func loose(s string) (string, []byte) {
	b := []byte(s)
	return unsafe.String(unsafe.SliceData(b), len(b)), b
}

func TestNothingIsKept(t *testing.T) {
	l, was := all(), all()
	var all [][]byte
	for i := range l {
		var path, data []byte
		l[i].Path, path = loose(l[i].Path)
		l[i].Data, data = loose(l[i].Data)
		all = append(all, path, data)
	}
	s, text := loose("12345678")
	all = append(all, text)
	room := append(l, file("behind", "it"))
	told, e := nar.Pack(room[:len(l)])
	str := nar.Str(s)
	ok, same := nar.May(l), nar.Same(l, was)
	nar.MayName(s)
	if !slices.Equal(l, was) || s != "12345678" || room[len(l)] != file("behind", "it") {
		t.Error("R3: what was handed in changed")
	}
	for _, b := range all {
		clear(b)
	}
	if told != pack(was) || e != api.OK || str != nar.Str("12345678") || !ok || !same {
		t.Errorf("R3: what was told changed: %q, %q", told, str)
	}
	if nar.Same(l, was) {
		t.Error("10.2: Same of what is no longer so")
	}
}

// R1, R5: a call hangs on no call ahead of it.
func TestCallsDoNotTouch(t *testing.T) {
	var told []string
	for range 3 {
		r, s := rand.New(rand.NewSource(5)), ""
		for range 50 {
			l := someTree(r)
			bytes, e := nar.Pack(l)
			s += fmt.Sprintln(bytes, e, nar.May(l), nar.Same(l, l[:1]), nar.Word(len(l)), nar.Str(l[0].Data), nar.MayName(l[len(l)-1].Path))
			l[0].Path = "a"
			bytes, e = nar.Pack(l)
			s += fmt.Sprintln(bytes, e, nar.May(l))
		}
		told = append(told, s)
	}
	if told[0] != told[1] || told[1] != told[2] {
		t.Error("R1: the same calls told something else")
	}
}
