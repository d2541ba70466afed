package parse

import (
	"strings"

	"shelfmark/api"
	"shelfmark/nar"
)

const (
	stroke    = "/"
	maxTarget = 4096 // bytes of a link's target
)

// place is where a text stands in the bytes of a tree.
type place int

const (
	atMagic place = iota
	atNode
	atType
	atKind
	atRegular
	atNothing // behind executable
	atContents
	atData
	atLink
	atTarget
	atClose // of what is no directory
	atIn    // a directory: what is in it, or its end
	atEntry
	atNaming
	atName
	atNamed
	atLeave // the end of an entry
	atEnd   // no text any more
)

// way is a word that may come, and the place behind it.
type way struct {
	word string
	next place
	kind int // of the node, if the word tells it
}

// ways are all that lead on from at, if words do.
func ways(at place) []way {
	switch at {
	case atMagic:
		return []way{{word: "nix-archive-1", next: atNode}}
	case atNode:
		return []way{{word: "(", next: atType}}
	case atType:
		return []way{{word: "type", next: atKind}}
	case atKind:
		return []way{
			{word: "regular", next: atRegular, kind: api.KFile},
			{word: "symlink", next: atLink, kind: api.KLink},
			{word: "directory", next: atIn, kind: api.KDir},
		}
	case atRegular:
		return []way{
			{word: "executable", next: atNothing, kind: api.KExec},
			{word: "contents", next: atData},
		}
	case atNothing:
		return []way{{word: "", next: atContents}}
	case atContents:
		return []way{{word: "contents", next: atData}}
	case atLink:
		return []way{{word: "target", next: atTarget}}
	case atClose:
		return []way{{word: ")", next: atLeave}}
	case atIn:
		return []way{{word: "entry", next: atEntry}, {word: ")", next: atLeave}}
	case atEntry:
		return []way{{word: "(", next: atNaming}}
	case atNaming:
		return []way{{word: "name", next: atName}}
	case atNamed:
		return []way{{word: "node", next: atNode}}
	case atLeave:
		return []way{{word: ")", next: atIn}}
	}
	return nil
}

// open is a node whose end did not come yet.
type open struct {
	path string
	last string // name of the node in it that came last
}

// tree is a tree as far as its texts came; at first none did.
type tree struct {
	at    place
	path  string // of the node that comes next, or came last
	nodes []api.Node
	opens []open // each in the one ahead of it
}

// most is how many bytes the next text may have; below 0: none may come.
func (t *tree) most() int {
	switch t.at {
	case atName:
		return api.MaxName
	case atTarget:
		return maxTarget
	case atData:
		return api.MaxData
	}
	most := -1
	for _, w := range ways(t.at) {
		most = max(most, len(w.word))
	}
	return most
}

// take takes the next text, which has no more bytes than it may; false: it may
// not come.
func (t *tree) take(text string) bool {
	switch t.at {
	case atName:
		return t.enter(text)
	case atTarget, atData:
		return t.hold(text)
	}
	for _, w := range ways(t.at) {
		if w.word == text {
			t.follow(w)
			return true
		}
	}
	return false
}

// enter takes the name of the next node.
func (t *tree) enter(name string) bool {
	// All that are open here are directories, each a name but the root.
	dir := &t.opens[len(t.opens)-1]
	if len(t.nodes) == api.MaxNodes || len(t.opens) > api.MaxDepth {
		return false
	}
	if !nar.MayName(name) || name <= dir.last {
		return false
	}
	dir.last = name
	t.path = name
	if dir.path != "" {
		t.path = dir.path + stroke + name
	}
	t.at = atNamed
	return true
}

// hold takes the data of the node that came last.
func (t *tree) hold(data string) bool {
	if t.at == atTarget && (data == "" || strings.IndexByte(data, 0) >= 0) {
		return false
	}
	t.nodes[len(t.nodes)-1].Data = data
	t.at = atClose
	return true
}

// follow takes the word of w.
func (t *tree) follow(w way) {
	t.at = w.next
	if w.kind != 0 {
		t.nodes[len(t.nodes)-1].Kind = w.kind
	}
	switch w.next {
	case atType:
		t.nodes = append(t.nodes, api.Node{Path: t.path})
		t.opens = append(t.opens, open{path: t.path})
	case atLeave:
		t.opens = t.opens[:len(t.opens)-1]
		if len(t.opens) == 0 {
			t.at = atEnd
		}
	}
}
