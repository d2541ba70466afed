package parse

import (
	"math"
	"slices"
	"strings"
	"testing"
)

// all asks for no text's length.
func all() int { return math.MaxInt32 }

// told is what texts of s tell; a false is `!`.
func told(c *cutter, s string, most func() int) []string {
	var l []string
	for text, ok := range c.texts(s, most) {
		if !ok {
			text += "!"
		}
		l = append(l, text)
	}
	return l
}

const (
	none  = "\x00\x00\x00\x00\x00\x00\x00\x00"
	one   = "\x01\x00\x00\x00\x00\x00\x00\x00a\x00\x00\x00\x00\x00\x00\x00"
	eight = "\x08\x00\x00\x00\x00\x00\x00\x0012345678"
	nine  = "\x09\x00\x00\x00\x00\x00\x00\x00123456789\x00\x00\x00\x00\x00\x00\x00"
)

// Chapter 11, Ways: texts come from an iterator.
func TestTexts(t *testing.T) {
	for _, c := range []struct {
		s    string
		want []string
		left int
	}{
		{"", nil, 0},
		{none[:7], nil, 7},
		{none, []string{""}, 0},
		{none + none, []string{"", ""}, 0},
		{one[:8], nil, 8},
		{one[:15], nil, 15},
		{one, []string{"a"}, 0},
		{one + eight + none + nine, []string{"a", "12345678", "", "123456789"}, 0},
		{eight + nine + one[:9], []string{"12345678", "123456789"}, 9},
		{nine + eight[:15] + "\xff" + none[:1], []string{"123456789", "1234567\xff"}, 1},
		{one[:15] + "\x01", []string{"!"}, 16},
		{one + nine[:23] + " " + one, []string{"a", "!"}, 24},
	} {
		var whole cutter
		if got := told(&whole, c.s, all); !slices.Equal(got, c.want) || len(whole.begun) != c.left {
			t.Errorf("texts of %q: %q, %d bytes begun, want %q, %d", c.s, got, len(whole.begun), c.want, c.left)
		}
		// In two pieces, wherever they part.
		for i := range len(c.s) + 1 {
			var parted cutter
			got := told(&parted, c.s[:i], all)
			if len(got) == 0 || got[len(got)-1] != "!" {
				got = append(got, told(&parted, c.s[i:], all)...)
			}
			if !slices.Equal(got, c.want) || len(parted.begun) != c.left {
				t.Errorf("texts of %q, parted at %d: %q, %d bytes begun", c.s, i, got, len(parted.begun))
			}
		}
	}
}

// It may be left early, and what comes behind the text told last is not begun.
func TestTextsLeft(t *testing.T) {
	var c cutter
	for text, ok := range c.texts(one+eight+nine, all) {
		if text != "a" || !ok {
			t.Errorf("the first text: %q, %v", text, ok)
		}
		break
	}
	if len(c.begun) != 0 {
		t.Errorf("%d bytes are begun", len(c.begun))
	}
	if got := told(&c, nine, all); !slices.Equal(got, []string{"123456789"}) {
		t.Errorf("texts behind: %q", got)
	}
}

// most is asked ahead of each text anew.
func TestTextsOfAtMost(t *testing.T) {
	for _, c := range []struct {
		s    string
		most []int
		want []string
	}{
		{one + eight + none + nine, []int{1, 8, 0, 9}, []string{"a", "12345678", "", "123456789"}},
		{one + eight, []int{1, 7}, []string{"a", "!"}},
		{one + eight[:8], []int{1, 7}, []string{"a", "!"}},
		{one + eight[:7], []int{1, 7}, []string{"a"}},
		{one, []int{0}, []string{"!"}},
		{none + one, []int{0, -1}, []string{"", "!"}},
		{none + none[:1], []int{0, -1}, []string{"", "!"}},
		{none, []int{0, -1}, []string{""}},
		{"", []int{-1}, nil},
		{"\x00", []int{-1}, []string{"!"}},
		{"\xff\xff\xff\xff\xff\xff\xff\xff", []int{math.MaxInt}, []string{"!"}},
		{"\x00\x00\x00\x00\x00\x00\x00\x80", []int{math.MaxInt}, []string{"!"}},
	} {
		var cut cutter
		var got []string
		for text, ok := range cut.texts(c.s, func() int { return c.most[len(got)] }) {
			if !ok {
				text += "!"
			}
			got = append(got, text)
		}
		if !slices.Equal(got, c.want) {
			t.Errorf("texts of %q, of at most %d bytes: %q, want %q", c.s, c.most, got, c.want)
		}
	}
}

// No more of what comes is begun than one text asks for.
func TestBegun(t *testing.T) {
	var c cutter
	if got := told(&c, strings.Repeat(one, 1<<16)+nine[:20], all); len(got) != 1<<16 || len(c.begun) != 20 {
		t.Errorf("%d texts, %d bytes begun", len(got), len(c.begun))
	}
	if cap(c.begun) > 200 {
		t.Errorf("%d bytes are held for 20", cap(c.begun))
	}
}

func TestWhole(t *testing.T) {
	for n, want := range map[int]int{0: 8, 1: 16, 7: 16, 8: 16, 9: 24, 16: 24, 17: 32, 65535: 65544, 65536: 65544} {
		if got := whole(n); got != want {
			t.Errorf("whole(%d): %d, want %d", n, got, want)
		}
	}
}

func TestLength(t *testing.T) {
	for s, want := range map[string]uint64{
		none: 0, one: 1, "\x00\x01\x00\x00\x00\x00\x00\x00": 256, "\x01\x02\x03\x04\x05\x06\x07\x08": 0x0807060504030201,
		"\x00\x00\x00\x00\x00\x00\x00\x80": 1 << 63, "\xff\xff\xff\xff\xff\xff\xff\xff": math.MaxUint64,
	} {
		if got := length([]byte(s)); got != want {
			t.Errorf("length of %q: %d, want %d", s, got, want)
		}
	}
}
