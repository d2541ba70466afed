package info

import (
	"iter"
	"slices"
	"strings"
	"testing"

	"shelfmark/api"
)

// wantSeq holds what l goes through against want: to its end, left early, and gone
// through again from its beginning.
func wantSeq(t *testing.T, name string, l iter.Seq[string], want []string) {
	t.Helper()
	for n := 1; n <= len(want); n++ {
		var got []string
		for line := range l {
			got = append(got, line)
			if len(got) == n {
				break
			}
		}
		if !slices.Equal(got, want[:n]) {
			t.Errorf("Chapter 14, Ways: %s, left behind %d: %.200q", name, n, got)
		}
	}
	if got := slices.Collect(l); !slices.Equal(got, want) {
		t.Errorf("Chapter 14, Ways: %s: %.200q, want %.200q", name, got, want)
	}
}

// Chapter 14, Ways: lines come from an iterator.
func TestLines(t *testing.T) {
	for _, c := range []struct {
		s    string
		want []string
	}{
		{"", nil},
		{"\n", []string{""}},
		{"\n\n", []string{"", ""}},
		{"a", []string{"a"}},
		{"a\n", []string{"a"}},
		{"\na", []string{"", "a"}},
		{"a\n\n", []string{"a", ""}},
		{"a\nb", []string{"a", "b"}},
		{"a: b\nc:\n\xff\r\n \x00", []string{"a: b", "c:", "\xff\r", " \x00"}},
		{strings.Repeat("a\n", 500), slices.Repeat([]string{"a"}, 500)},
	} {
		wantSeq(t, "lines", lines(c.s), c.want)
	}
}

func TestTold(t *testing.T) {
	h := strings.Repeat("\x00", 32)
	nought := "NarHash: sha256:" + strings.Repeat("0", 52)
	wantSeq(t, "told", told(api.Info{Path: "/nix/store/p", Hash: h}), []string{"StorePath: /nix/store/p", nought, "NarSize: 0", "References:"})
	wantSeq(t, "told", told(api.Info{
		Path: "/nix/store/p", Hash: h, Size: 12, Refs: []string{"/nix/store/p", "/nix/store/q"}, Sigs: []string{"k:x", "l:y", "m:z"},
	}), []string{"StorePath: /nix/store/p", nought, "NarSize: 12", "References: p q", "Sig: k:x", "Sig: l:y", "Sig: m:z"})
}

func TestTake(t *testing.T) {
	var i api.Info
	h := strings.Repeat("h", 32)
	for line := range told(api.Info{Path: "p", Hash: h, Size: 12, Refs: []string{ahead + "p", ahead + "q"}, Sigs: []string{"k:x", "l:y"}}) {
		take(&i, line)
	}
	if !Same(i, api.Info{Path: "p", Hash: h, Size: 12, Refs: []string{ahead + "p", ahead + "q"}, Sigs: []string{"k:x", "l:y"}}) {
		t.Errorf("14.2: taken: %+v", i)
	}
	for _, line := range []string{"", ":", " ", "x", "x: y", "StorePaths: y", "storePath: y", " StorePath: y", "StorePath : y", "Si: y", "References", "Sigs:"} {
		i = api.Info{}
		if take(&i, line); !Same(i, api.Info{}) {
			t.Errorf("14.2: taken of %q: %+v", line, i)
		}
	}
}

func TestEach(t *testing.T) {
	letter := func(s string) bool { return len(s) == 1 }
	for _, c := range []struct {
		l    []string
		most int
		want bool
	}{
		{nil, 0, true},
		{[]string{}, 0, true},
		{[]string{"a"}, 0, false},
		{[]string{"a"}, 1, true},
		{[]string{""}, 1, false},
		{[]string{"aa"}, 1, false},
		{[]string{"a", "b"}, 1, false},
		{[]string{"a", "b"}, 2, true},
		{[]string{"a", "b", "c"}, 9, true},
		{[]string{"a", "a"}, 2, false},
		{[]string{"b", "a"}, 2, false},
		{[]string{"a", "c", "b"}, 9, false},
		{[]string{"a", "c", "c"}, 9, false},
		{[]string{"a", "b", "bb"}, 9, false},
		{[]string{"", "a", "b"}, 9, false},
		{[]string{"Z", "a", "\x80", "\xff"}, 9, true},
		{[]string{"a", "\xff", "\x80"}, 9, false},
	} {
		if got := each(c.l, c.most, letter); got != c.want {
			t.Errorf("14.1: each of %q, at most %d: %v", c.l, c.most, got)
		}
	}
}
