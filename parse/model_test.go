package parse_test

import (
	"math/big"
	"math/rand"
	"slices"
	"strings"

	"shelfmark/api"
)

// The words of chapters 10 and 11, one by one, without care for how long they
// take: all that came is read anew from its front, by calls one in another.

type model struct {
	rest  string
	nodes []api.Node
}

// get is Get of s.
func get(s string) (l []api.Node, e api.Errno) {
	defer func() {
		if r := recover(); r != nil {
			l, e = nil, r.(api.Errno)
		}
	}()
	m := &model{rest: s}
	m.word("nix-archive-1")
	m.node("", 0)
	m.unless(m.rest != "", api.ErrForm)
	return m.nodes, api.OK
}

func (m *model) unless(wrong bool, e api.Errno) {
	if wrong {
		panic(e)
	}
}

// text is the next text, if it has at most so many bytes.
func (m *model) text(most int) string {
	m.unless(len(m.rest) < 8, api.ErrMore)
	n := new(big.Int)
	for i := 7; i >= 0; i-- {
		n.Lsh(n, 8)
		n.Add(n, big.NewInt(int64(m.rest[i])))
	}
	m.unless(n.Cmp(big.NewInt(int64(most))) > 0, api.ErrForm)
	size := int(n.Int64())
	full := size
	for full%8 != 0 {
		full++
	}
	m.unless(len(m.rest) < 8+full, api.ErrMore)
	text, fill := m.rest[8:8+size], m.rest[8+size:8+full]
	m.unless(strings.Trim(fill, "\x00") != "", api.ErrForm)
	m.rest = m.rest[8+full:]
	return text
}

// word is the next text, one of l.
func (m *model) word(l ...string) string {
	most := 0
	for _, s := range l {
		most = max(most, len(s))
	}
	s := m.text(most)
	m.unless(!slices.Contains(l, s), api.ErrForm)
	return s
}

func (m *model) words(l ...string) {
	for _, s := range l {
		m.word(s)
	}
}

// node reads the node at path, which is so many names.
func (m *model) node(path string, names int) {
	m.words("(", "type")
	m.nodes = append(m.nodes, api.Node{Path: path})
	node := &m.nodes[len(m.nodes)-1]
	switch m.word("regular", "symlink", "directory") {
	case "regular":
		node.Kind = api.KFile
		if m.word("executable", "contents") == "executable" {
			node.Kind = api.KExec
			m.words("", "contents")
		}
		node.Data = m.text(65536)
	case "symlink":
		m.word("target")
		node.Kind, node.Data = api.KLink, m.text(4096)
		m.unless(node.Data == "" || strings.Contains(node.Data, "\x00"), api.ErrForm)
	case "directory":
		node.Kind = api.KDir
		m.in(path, names)
		return
	}
	m.word(")")
}

// in reads what is in the directory at path.
func (m *model) in(path string, names int) {
	var ahead []string
	for m.word("entry", ")") == "entry" {
		m.words("(", "name")
		name := m.text(255)
		m.unless(!mayName(name), api.ErrForm)
		m.unless(len(ahead) > 0 && name <= ahead[len(ahead)-1], api.ErrForm)
		m.unless(len(m.nodes)+1 > 256 || names+1 > 64, api.ErrForm)
		ahead = append(ahead, name)
		m.word("node")
		m.node(strings.TrimPrefix(path+"/"+name, "/"), names+1)
		m.word(")")
	}
}

func mayName(s string) bool {
	return s != "" && len(s) <= 255 && s != "." && s != ".." && !strings.ContainsAny(s, "\x00/")
}

// fed is what Feed tells when s is all that came.
func fed(s string) api.Errno {
	_, e := get(s)
	if e == api.ErrMore {
		return api.OK
	}
	return e
}

// size is the eight bytes of n, the lowest first.
func size(n uint64) string {
	b := make([]byte, 8)
	for i := range b {
		b[i] = byte(n)
		n /= 256
	}
	return string(b)
}

// strs are texts, one behind the other, each with its length and what fills it.
func strs(l ...string) string {
	var b strings.Builder
	for _, s := range l {
		b.WriteString(size(uint64(len(s))))
		b.WriteString(s)
		for n := len(s); n%8 != 0; n++ {
			b.WriteByte(0)
		}
	}
	return b.String()
}

// texts are the texts of a tree that may be, each as it is.
func texts(l []api.Node) []string { return append([]string{"nix-archive-1"}, body(l, l[0])...) }

// body is the texts of node, one of l.
func body(l []api.Node, node api.Node) []string {
	out := []string{"(", "type"}
	switch node.Kind {
	case api.KFile:
		return append(out, "regular", "contents", node.Data, ")")
	case api.KExec:
		return append(out, "regular", "executable", "", "contents", node.Data, ")")
	case api.KLink:
		return append(out, "symlink", "target", node.Data, ")")
	}
	out = append(out, "directory")
	for _, in := range l[1:] {
		names := strings.Split(in.Path, "/")
		name := names[len(names)-1]
		if strings.Join(names[:len(names)-1], "/") == node.Path {
			out = append(out, "entry", "(", "name", name, "node")
			out = append(append(out, body(l, in)...), ")")
		}
	}
	return append(out, ")")
}

// someTree is a tree that may be, another for each r.
func someTree(r *rand.Rand) []api.Node {
	l := []api.Node{{Kind: api.KDir}}
	if r.Intn(8) == 0 {
		l[0].Kind = api.KFile + r.Intn(3)
		l[0].Data = someData(r, l[0].Kind)
		return l
	}
	return grow(r, l, "", 0)
}

// grow puts nodes into the directory at path, the last one of l.
func grow(r *rand.Rand, l []api.Node, path string, depth int) []api.Node {
	names := map[string]int{}
	for range r.Intn(5) {
		names[someName(r)]++
	}
	var rising []string
	for name := range names {
		rising = append(rising, name)
	}
	slices.Sort(rising)
	for _, name := range rising {
		node := api.Node{Path: strings.TrimPrefix(path+"/"+name, "/"), Kind: api.KFile + r.Intn(4)}
		node.Data = someData(r, node.Kind)
		l = append(l, node)
		if node.Kind == api.KDir && depth < 3 {
			l = grow(r, l, node.Path, depth+1)
		}
	}
	return l
}

func someName(r *rand.Rand) string {
	const signs = "ab-.\x01\x7f\x80\xff\n "
	for {
		b := make([]byte, 1+r.Intn(12))
		for i := range b {
			b[i] = signs[r.Intn(len(signs))]
		}
		if mayName(string(b)) {
			return string(b)
		}
	}
}

func someData(r *rand.Rand, kind int) string {
	if kind == api.KDir {
		return ""
	}
	b := make([]byte, 1+r.Intn(20))
	for i := range b {
		b[i] = byte(1 + r.Intn(255))
	}
	return string(b)
}

// someTexts turns something about texts, so that they may or may not be a tree's.
func someTexts(r *rand.Rand, l []string) []string {
	words := []string{"", "nix-archive-1", "(", ")", "type", "regular", "executable", "contents", "symlink", "target", "directory", "entry", "name", "node", "a", ".", "..", "a/b", "a\x00"}
	if len(l) == 0 {
		return l
	}
	l = slices.Clone(l)
	i, k := r.Intn(len(l)), r.Intn(len(l))
	switch r.Intn(7) {
	case 0:
		l[i], l[k] = l[k], l[i]
	case 1:
		return slices.Delete(l, i, i+1)
	case 2:
		return slices.Insert(l, i, l[k])
	case 3:
		l[i] = l[k]
	case 4:
		l[i] = words[r.Intn(len(words))]
	case 5:
		return slices.Insert(l, i, words[r.Intn(len(words))])
	case 6:
		l[i] += l[k]
	}
	return l
}

// someBytes turns something about s.
func someBytes(r *rand.Rand, s string) string {
	i, k := r.Intn(len(s)+1), r.Intn(len(s)+1)
	switch r.Intn(6) {
	case 0:
		return s[:i] + string([]byte{byte(r.Intn(256))}) + s[min(i+1, len(s)):]
	case 1:
		return s[:i]
	case 2:
		return s[:i] + string([]byte{byte(r.Intn(3))}) + s[i:]
	case 3:
		return s[:i] + s[k:]
	case 4:
		return s[:i/8*8] + s[k/8*8:]
	}
	return s[:i/8*8] + size(uint64(1)<<r.Intn(64)) + s[min(i/8*8+8, len(s)):]
}
