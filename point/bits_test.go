package point

import (
	"strings"
	"testing"

	"shelfmark/api"
)

// bitTexts are numbers, and their bits from the highest one that is 1 on.
func bitTexts() []struct {
	k    api.Num
	text string
} {
	noughts := strings.Repeat("0", 255)
	return []struct {
		k    api.Num
		text string
	}{
		{api.Num{}, ""},
		{api.Num{1}, "1"},
		{api.Num{5}, "101"},
		{api.Num{1 << 63}, "1" + noughts[:63]},
		{api.Num{0, 1}, "1" + noughts[:64]},
		{api.Num{0, 3 << 62}, "11" + noughts[:126]},
		{api.Num{3, 1, 2}, "10" + noughts[:63] + "1" + noughts[:62] + "11"},
		{api.Num{0, 0, 0, 1 << 63}, "1" + noughts},
		{api.Num{1, 0, 0, 1 << 63}, "1" + noughts[:254] + "1"},
		{api.Num{1<<64 - 1, 1<<64 - 1, 1<<64 - 1, 1<<64 - 1}, strings.Repeat("1", 256)},
	}
}

func digit(set bool) string {
	if set {
		return "1"
	}
	return "0"
}

// Chapter 8, Ways: bits of k are gone through by an iterator.
func TestBitsOf(t *testing.T) {
	for _, c := range bitTexts() {
		want := strings.Repeat("0", 256-len(c.text)) + c.text
		got := ""
		for set := range bitsOf(c.k) {
			got += digit(set)
		}
		if got != want {
			t.Errorf("bits of %x: %s, want %s", c.k, got, want)
		}
	}
}

// It may be left early, and gone through again from its beginning.
func TestBitsOfLeftEarly(t *testing.T) {
	l := bitsOf(api.Num{5, 0, 0, 0xa5 << 56})
	want := "10100101" + strings.Repeat("0", 245) + "101"
	for n := 1; n <= len(want); n++ {
		got := ""
		for set := range l {
			got += digit(set)
			if len(got) == n {
				break
			}
		}
		if got != want[:n] {
			t.Errorf("bits, left behind %d: %s", n, got)
		}
	}
}
