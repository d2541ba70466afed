package nar

import (
	"slices"
	"strings"
	"testing"

	"shelfmark/api"
)

func piece(paths ...string) []api.Node {
	var l []api.Node
	for _, path := range paths {
		l = append(l, api.Node{Path: path, Kind: api.KDir})
	}
	return l
}

// told is what is in a directory, as a name, and the paths that it stands with.
func told(name string, l []api.Node) string {
	for _, node := range l {
		name += " " + node.Path
	}
	return name
}

// Chapter 10, Ways: nodes of a directory are gone through by an iterator.
func TestEntries(t *testing.T) {
	for _, c := range []struct {
		l    []api.Node
		want []string
	}{
		{piece(""), nil},
		{piece("a"), nil},
		{piece("", "a"), []string{"a a"}},
		{piece("", "a", "b", "c"), []string{"a a", "b b", "c c"}},
		{piece("", "a", "a/x", "a/x/y", "a/z", "a.b", "b", "b/a"), []string{"a a a/x a/x/y a/z", "a.b a.b", "b b b/a"}},
		{piece("", "a", "a/a", "a/a/a", "aa", "aa/a"), []string{"a a a/a a/a/a", "aa aa aa/a"}},
		{piece("a", "a/a", "a/a/a", "a/aa", "a/b"), []string{"a a/a a/a/a", "aa a/aa", "b a/b"}},
		{piece("a/b", "a/b/c", "a/b/c/d", "a/b/c/d/e"), []string{"c a/b/c a/b/c/d a/b/c/d/e"}},
		{piece("", "\x01", "\xff", "\xff/\xff"), []string{"\x01 \x01", "\xff \xff \xff/\xff"}},
	} {
		l := entries(c.l)
		// It may be left early, and gone through again from its beginning.
		for n := 1; n <= len(c.want); n++ {
			var got []string
			for name, node := range l {
				got = append(got, told(name, node))
				if len(got) == n {
					break
				}
			}
			if !slices.Equal(got, c.want[:n]) {
				t.Errorf("entries of %q, left behind %d: %q", told("", c.l), n, got)
			}
		}
		var got []string
		for name, node := range l {
			got = append(got, told(name, node))
		}
		if !slices.Equal(got, c.want) {
			t.Errorf("entries of %q: %q, want %q", told("", c.l), got, c.want)
		}
	}
}

func TestPart(t *testing.T) {
	long := strings.Repeat("d/", 63)
	for path, want := range map[string][2]string{
		"a": {"", "a"}, "a/b": {"a", "b"}, "a/b/c": {"a/b", "c"}, "\xff/\xfe": {"\xff", "\xfe"}, "": {"", ""}, long + "e": {long[:125], "e"},
	} {
		if dir, name := part(path); dir != want[0] || name != want[1] {
			t.Errorf("part of %q: %q, %q", path, dir, name)
		}
	}
}
