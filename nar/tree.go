package nar

import (
	"iter"
	"strings"

	"shelfmark/api"
)

const (
	stroke    = "/"
	maxTarget = 4096 // bytes of a link's target
)

// MayName: s may be the name of a node in a directory.
func MayName(s string) bool {
	if len(s) < 1 || len(s) > api.MaxName {
		return false
	}
	return s != "." && s != ".." && !strings.Contains(s, stroke) && !hasZero(s)
}

// May: l may be a tree.
func May(l []api.Node) bool {
	if len(l) < 1 || len(l) > api.MaxNodes || l[0].Path != "" {
		return false
	}
	for i, node := range l {
		if !mayHold(node) {
			return false
		}
		if i > 0 && !(mayPath(node.Path) && follows(l[i-1], node)) {
			return false
		}
	}
	return true
}

// mayHold: the node may be of its kind and have its data.
func mayHold(node api.Node) bool {
	n := len(node.Data)
	switch node.Kind {
	case api.KFile, api.KExec:
		return n <= api.MaxData
	case api.KLink:
		return n >= 1 && n <= maxTarget && !hasZero(node.Data)
	case api.KDir:
		return n == 0
	}
	return false
}

func hasZero(s string) bool { return strings.IndexByte(s, 0) >= 0 }

// mayPath: path is names, and no more than there may be.
func mayPath(path string) bool {
	n := 0
	for name := range strings.SplitSeq(path, stroke) {
		n++
		if n > api.MaxDepth || !MayName(name) {
			return false
		}
	}
	return true
}

// follows: node may stand right behind last, the end of a tree yet. No other
// node is asked, since those that last is below are known to be directories, and
// they alone may yet have more in them.
func follows(last, node api.Node) bool {
	dir, name := part(node.Path)
	if dir == last.Path {
		return last.Kind == api.KDir
	}
	rest, below := last.Path, true
	if dir != "" {
		rest, below = strings.CutPrefix(last.Path, dir+stroke)
	}
	ahead, _, _ := strings.Cut(rest, stroke)
	return below && ahead < name
}

// part is the path of the directory in which path stands, and its last name.
func part(path string) (dir, name string) {
	i := strings.LastIndex(path, stroke)
	return path[:max(0, i)], path[i+1:]
}

// entries goes through the nodes of a directory by their last names, each with
// all that is below it. The directory is the first of l, a tree or a piece of
// one, and all others are below it.
func entries(l []api.Node) iter.Seq2[string, []api.Node] {
	return func(yield func(string, []api.Node) bool) {
		for rest := l[1:]; len(rest) > 0; {
			n := span(rest)
			_, name := part(rest[0].Path)
			if !yield(name, rest[:n]) {
				return
			}
			rest = rest[n:]
		}
	}
}

// span is how many nodes the first of l, and what is below it, are.
func span(l []api.Node) int {
	below := l[0].Path + stroke
	n := 1
	for n < len(l) && strings.HasPrefix(l[n].Path, below) {
		n++
	}
	return n
}
