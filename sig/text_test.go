package sig

import (
	"slices"
	"strings"
	"testing"
)

// Chapter 9, Ways: a text is parted by an iterator.
func TestParts(t *testing.T) {
	for _, c := range []struct {
		s    string
		want []string
	}{
		{"", []string{""}},
		{"a", []string{"a"}},
		{":", []string{"", ""}},
		{"a:", []string{"a", ""}},
		{":a", []string{"", "a"}},
		{"a:b", []string{"a", "b"}},
		{"::", []string{"", "", ""}},
		{"a::b", []string{"a", "", "b"}},
		{"ab:cd:ef:", []string{"ab", "cd", "ef", ""}},
		{"\xff:\u00e4\n;\x00: ", []string{"\xff", "\u00e4\n;\x00", " "}},
		{strings.Repeat("a:", 500) + "b", append(slices.Repeat([]string{"a"}, 500), "b")},
	} {
		l := parts(c.s)
		// It may be left early, and gone through again from its beginning.
		for n := 1; n <= len(c.want); n++ {
			var got []string
			for part := range l {
				got = append(got, part)
				if len(got) == n {
					break
				}
			}
			if !slices.Equal(got, c.want[:n]) {
				t.Errorf("parts of %.40q, left behind %d: %.60q", c.s, n, got)
			}
		}
		if got := slices.Collect(l); !slices.Equal(got, c.want) {
			t.Errorf("parts of %.40q: %.60q, want %.60q", c.s, got, c.want)
		}
	}
}

// Chapter 9 tells them, and names them nowhere else.
func TestFits(t *testing.T) {
	const signs = "ABCDEFGHIJKLMNOPQRSTUVWXYZabcdefghijklmnopqrstuvwxyz0123456789-._"
	for b := range 256 {
		if got, want := fits(byte(b)), strings.IndexByte(signs, byte(b)) >= 0; got != want {
			t.Errorf("byte %d fits: %v", b, got)
		}
	}
}
