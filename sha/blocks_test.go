package sha

import (
	"slices"
	"strings"
	"testing"
)

// Chapter 3, Ways: the iterator goes through the whole blocks, in order.
func TestBlocks(t *testing.T) {
	s := strings.Repeat("a", 64) + strings.Repeat("b", 64) + strings.Repeat("c", 64)
	for n := range len(s) + 1 {
		var want []string
		for i := range n / 64 {
			want = append(want, s[64*i:64*i+64])
		}
		if got := slices.Collect(blocks(s[:n])); !slices.Equal(got, want) {
			t.Errorf("blocks of %d bytes: %q", n, got)
		}
	}
}

func TestBlocksLeftEarly(t *testing.T) {
	all, n := blocks(strings.Repeat("a", 64*3)), 0
	for range all {
		n++
		if n == 2 {
			break
		}
	}
	if n != 2 || len(slices.Collect(all)) != 3 {
		t.Error("blocks that were left early:", n)
	}
}

// 3.1: a byte 128, as few bytes 0 as may be, the length in eight bytes.
func TestTail(t *testing.T) {
	for n := range 300 {
		s := tail(n)
		if (n+len(s))%64 != 0 || len(s) < 9 || len(s) > 72 || s[0] != 128 {
			t.Errorf("tail of %d: %q", n, s)
		}
		if strings.Trim(s[1:len(s)-2], "\x00") != "" || int(s[len(s)-2])*256+int(s[len(s)-1]) != 8*n {
			t.Errorf("tail of %d: %q", n, s)
		}
	}
	for n, want := range map[int]string{
		1<<29 - 1: "\x00\x00\x00\x00\xff\xff\xff\xf8",
		1 << 29:   "\x00\x00\x00\x01\x00\x00\x00\x00",
		1<<31 - 1: "\x00\x00\x00\x03\xff\xff\xff\xf8",
	} {
		if !strings.HasSuffix(tail(n), want) {
			t.Errorf("tail of %d: %q", n, tail(n))
		}
	}
}
