package nar_test

import (
	"math/rand"
	"slices"
	"strings"

	"shelfmark/api"
)

// The words of chapter 10, one by one, without care for how long they take.

func mayName(s string) bool {
	for _, c := range []byte(s) {
		if c == 0 || c == '/' {
			return false
		}
	}
	return 1 <= len(s) && len(s) <= 255 && s != "." && s != ".."
}

// above is the directory in which path stands, and its last name.
func above(path string) (string, string) {
	names := strings.Split(path, "/")
	last := len(names) - 1
	return strings.Join(names[:last], "/"), names[last]
}

func mayPath(path string) bool {
	names := strings.Split(path, "/")
	return len(names) <= 64 && !slices.ContainsFunc(names, func(s string) bool { return !mayName(s) })
}

func mayData(node api.Node) bool {
	n := len(node.Data)
	switch {
	case node.Kind < api.KFile || node.Kind > api.KDir:
		return false
	case node.Kind == api.KLink && (n < 1 || n > 4096 || strings.Contains(node.Data, "\x00")):
		return false
	case node.Kind == api.KDir && n != 0:
		return false
	}
	return n <= 65536
}

// hasDir: ahead of node i stands the directory above it.
func hasDir(l []api.Node, i int) bool {
	dir, _ := above(l[i].Path)
	return slices.ContainsFunc(l[:i], func(node api.Node) bool { return node.Path == dir && node.Kind == api.KDir })
}

// inOrder: node i stands behind all that are in its directory by lesser names,
// and behind all that is below them.
func inOrder(l []api.Node, i int) bool {
	dir, name := above(l[i].Path)
	for k := 1; k < len(l); k++ {
		if other, less := above(l[k].Path); other != dir || k == i || less > name || less == name && k > i {
			continue
		} else if less == name || k > i {
			return false
		}
		for m := i + 1; m < len(l); m++ {
			if strings.HasPrefix(l[m].Path, l[k].Path+"/") {
				return false
			}
		}
	}
	return true
}

func may(l []api.Node) bool {
	if len(l) < 1 || len(l) > 256 || l[0].Path != "" {
		return false
	}
	for i, node := range l {
		if !mayData(node) || i > 0 && !(mayPath(node.Path) && hasDir(l, i) && inOrder(l, i)) {
			return false
		}
	}
	return true
}

// str is Str of s, byte by byte.
func str(s string) string {
	var b []byte
	for n, i := len(s), 0; i < 8; i++ {
		b = append(b, byte(n%256))
		n /= 256
	}
	b = append(b, s...)
	for len(b)%8 != 0 {
		b = append(b, 0)
	}
	return string(b)
}

func strs(l ...string) string {
	var b strings.Builder
	for _, s := range l {
		b.WriteString(str(s))
	}
	return b.String()
}

// pack is Pack of a tree that may be.
func pack(l []api.Node) string { return strs(append([]string{"nix-archive-1"}, body(l, l[0])...)...) }

// body is the texts of node, one of l.
func body(l []api.Node, node api.Node) []string {
	out := []string{"(", "type"}
	switch node.Kind {
	case api.KFile:
		return append(out, "regular", "contents", node.Data, ")")
	case api.KExec:
		return append(out, "regular", "executable", "", "contents", node.Data, ")")
	case api.KLink:
		return append(out, "symlink", "target", node.Data, ")")
	}
	out = append(out, "directory")
	for _, in := range l[1:] {
		if dir, name := above(in.Path); dir == node.Path {
			out = append(out, "entry", "(", "name", name, "node")
			out = append(append(out, body(l, in)...), ")")
		}
	}
	return append(out, ")")
}

// unpack reads a packing anew, so that what two trees share it could not tell.
func unpack(s string) []api.Node {
	var texts []string
	for s != "" {
		n := 0
		for i, c := range []byte(s[:8]) {
			n |= int(c) << (8 * i)
		}
		texts, s = append(texts, s[8:8+n]), s[8+(n+7)/8*8:]
	}
	r := &reading{texts: texts}
	r.want("nix-archive-1")
	r.node("")
	if len(r.texts) != 0 {
		panic("bytes behind the last text")
	}
	return r.out
}

type reading struct {
	texts []string
	out   []api.Node
}

func (r *reading) next() string {
	s := r.texts[0]
	r.texts = r.texts[1:]
	return s
}

func (r *reading) want(l ...string) {
	for _, s := range l {
		if got := r.next(); got != s {
			panic("text " + got + ", want " + s)
		}
	}
}

func (r *reading) node(path string) {
	r.want("(", "type")
	node := api.Node{Path: path, Kind: api.KFile}
	switch r.next() {
	case "regular":
		if r.texts[0] == "executable" {
			r.want("executable", "")
			node.Kind = api.KExec
		}
		r.want("contents")
		node.Data = r.next()
	case "symlink":
		r.want("target")
		node.Kind, node.Data = api.KLink, r.next()
	case "directory":
		node.Kind = api.KDir
	default:
		panic("another type")
	}
	r.out = append(r.out, node)
	for node.Kind == api.KDir && r.texts[0] == "entry" {
		r.want("entry", "(", "name")
		in := strings.TrimPrefix(path+"/"+r.next(), "/")
		r.want("node")
		r.node(in)
		r.want(")")
	}
	r.want(")")
}

// someTree is a tree that may be, another for each r.
func someTree(r *rand.Rand) []api.Node {
	l := []api.Node{{Kind: api.KDir}}
	if r.Intn(8) == 0 {
		l[0].Kind = api.KFile + r.Intn(3)
		l[0].Data = someData(r, l[0].Kind)
		return l
	}
	return fill(r, l, "", 0)
}

// fill puts nodes into the directory at path, the last one of l.
func fill(r *rand.Rand, l []api.Node, path string, depth int) []api.Node {
	names := map[string]int{}
	for range r.Intn(5) {
		names[someName(r)]++
	}
	var rising []string
	for name := range names {
		rising = append(rising, name)
	}
	slices.Sort(rising)
	for _, name := range rising {
		node := api.Node{Path: strings.TrimPrefix(path+"/"+name, "/"), Kind: api.KFile + r.Intn(4)}
		node.Data = someData(r, node.Kind)
		l = append(l, node)
		if node.Kind == api.KDir && depth < 3 {
			l = fill(r, l, node.Path, depth+1)
		}
	}
	return l
}

func someName(r *rand.Rand) string {
	const signs = "ab-.\x01\x7f\x80\xff\n "
	for {
		b := make([]byte, 1+r.Intn(3))
		for i := range b {
			b[i] = signs[r.Intn(len(signs))]
		}
		if mayName(string(b)) {
			return string(b)
		}
	}
}

func someData(r *rand.Rand, kind int) string {
	if kind == api.KDir {
		return ""
	}
	b := make([]byte, 1+r.Intn(20))
	for i := range b {
		b[i] = byte(1 + r.Intn(255))
	}
	return string(b)
}

// spoil turns something about l, so that it may or may not be a tree yet.
func spoil(r *rand.Rand, l []api.Node) []api.Node {
	l = slices.Clone(l)
	i, k := r.Intn(len(l)), r.Intn(len(l))
	switch r.Intn(9) {
	case 0:
		l[i], l[k] = l[k], l[i]
	case 1:
		l = slices.Delete(l, i, i+1)
	case 2:
		l = slices.Insert(l, i, l[k])
	case 3:
		l[i].Kind = r.Intn(6)
	case 4:
		l[i].Data = ""
	case 5:
		l[i].Path = l[k].Path
	case 6:
		l[i].Path += "/"[:r.Intn(2)] + someName(r)
	case 7:
		l[i].Path = someName(r) + "/"[:r.Intn(2)] + l[i].Path
	case 8:
		at := r.Intn(len(l[i].Path) + 1)
		l[i].Path = l[i].Path[:at] + []string{"/", "\x00", ".", ".."}[r.Intn(4)] + l[i].Path[at:]
	}
	return l
}
