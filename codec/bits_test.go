package codec

import (
	"iter"
	"slices"
	"testing"
)

func wantSeq(t *testing.T, name string, l iter.Seq[byte], want ...byte) {
	t.Helper()
	if got := slices.Collect(l); !slices.Equal(got, want) {
		t.Errorf("%s: %q, want %q", name, got, want)
	}
	// Each may be left early, and gone through again from its beginning.
	for n := range want {
		var got []byte
		for x := range l {
			got = append(got, x)
			if len(got) == n+1 {
				break
			}
		}
		if !slices.Equal(got, want[:n+1]) {
			t.Errorf("%s, left behind %d: %q, want %q", name, n+1, got, want[:n+1])
		}
	}
}

// Chapter 5, Ways: letters are gone through by an iterator.
func TestBytesInOrder(t *testing.T) {
	wantSeq(t, "forward of nothing", forward(""))
	wantSeq(t, "backward of nothing", backward(""))
	wantSeq(t, "forward", forward("a\u00e4\xff\x00"), 'a', 0xc3, 0xa4, 0xff, 0)
	wantSeq(t, "backward", backward("a\u00e4\xff\x00"), 0, 0xff, 0xa4, 0xc3, 'a')
}

func TestLettersAndNumbers(t *testing.T) {
	wantSeq(t, "letters", letters(by32, forward("\x00\x1f\x0e")), '0', 'z', 'f')
	wantSeq(t, "numbers", numbers(by32, forward("0zf")), 0, 31, 14)
	wantSeq(t, "numbers of none", numbers(by32, forward("ze\xff\x00Z1")), 31, 0, 0, 0, 0, 1)
}

func TestSetsOfLetters(t *testing.T) {
	for _, set := range []string{by16, by32, by64} {
		for i, c := range []byte(set) {
			wantSeq(t, "number of a letter", numbers(set, forward(string([]byte{c}))), byte(i))
		}
	}
	if len(by16) != 16 || len(by32) != 32 || len(by64) != 64 {
		t.Error("letters:", len(by16), len(by32), len(by64))
	}
}

func TestHighest(t *testing.T) {
	wantSeq(t, "highest of nothing", highest(8, 6, forward("")))
	wantSeq(t, "highest, 8 by 4", highest(8, 4, forward("\x12\xf0")), 1, 2, 15, 0)
	wantSeq(t, "highest, 4 by 8", highest(4, 8, forward("\x01\x02\x0f")), 0x12, 0xf0)
	wantSeq(t, "highest, 8 by 6", highest(8, 6, forward("\xff")), 63, 48)
	wantSeq(t, "highest, 8 by 6", highest(8, 6, forward("\xff\xff")), 63, 63, 60)
	wantSeq(t, "highest, 8 by 6", highest(8, 6, forward("\xff\x00\xff")), 63, 48, 3, 63)
	wantSeq(t, "highest, 6 by 8", highest(6, 8, forward("\x3f\x30\x03\x3f")), 255, 0, 255)
}

func TestLowest(t *testing.T) {
	wantSeq(t, "lowest of nothing", lowest(8, 5, forward("")))
	wantSeq(t, "lowest, 8 by 5", lowest(8, 5, forward("\xff")), 31, 7)
	wantSeq(t, "lowest, 8 by 5", lowest(8, 5, forward("\x00\x01")), 0, 8, 0, 0)
	wantSeq(t, "lowest, 8 by 5", lowest(8, 5, forward("\x01\x00\x00\x00\x80")), 1, 0, 0, 0, 0, 0, 0, 16)
	wantSeq(t, "lowest, 5 by 8", lowest(5, 8, forward("\x1f\x07")), 255, 0)
	wantSeq(t, "lowest, 5 by 8", lowest(5, 8, forward("\x01\x00\x00\x00\x00\x00\x00\x10")), 1, 0, 0, 0, 128)
}

func TestFirst(t *testing.T) {
	for n := range 6 {
		if got, want := first(n, forward("abcd")), "abcd"[:min(n, 4)]; got != want {
			t.Errorf("first %d: %q, want %q", n, got, want)
		}
	}
	if got := first(3, forward("")); got != "" {
		t.Errorf("first of nothing: %q", got)
	}
}
