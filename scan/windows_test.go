package scan

import (
	"slices"
	"strings"
	"testing"
	"unsafe"

	"shelfmark/api"
)

const digits = "0123456789abcdfghijklmnpqrsvwxyz"

// row is n bytes, each window of it another one than those beside it.
func row(n int) string {
	b := make([]byte, n)
	for i := range b {
		b[i] = byte(i*7 + i/256)
	}
	return string(b)
}

// Chapter 12, Ways: windows of bytes come from an iterator.
func TestWindows(t *testing.T) {
	for n := range 140 {
		s := row(n)
		next := 0
		for at, window := range windows(s) {
			if at != next || window != s[at:at+32] {
				t.Fatalf("window %d of %d bytes: at %d %q", next, n, at, window)
			}
			next++
		}
		if want := max(0, n-31); next != want {
			t.Errorf("%d bytes have %d windows, want %d", n, next, want)
		}
	}
}

// They may be left early, and gone through again from the front.
func TestWindowsLeft(t *testing.T) {
	l := windows(row(40))
	for n := 1; n <= 9; n++ {
		var got []int
		for at := range l {
			got = append(got, at)
			if len(got) == n {
				break
			}
		}
		if want := []int{0, 1, 2, 3, 4, 5, 6, 7, 8}; !slices.Equal(got, want[:n]) {
			t.Errorf("windows left behind %d: at %v", n, got)
		}
	}
}

func TestEnd(t *testing.T) {
	for n := range 100 {
		s := row(n)
		if got := end(s); got != s[max(0, n-31):] {
			t.Errorf("end of %d bytes: %q", n, got)
		}
	}
}

// 12.2: a scanner keeps fewer than HashPart bytes, and no more of those that came.
func TestFewBytesAreKept(t *testing.T) {
	all := row(400) + digits + row(200)
	for size := 1; size < 100; size++ {
		x := New([]string{digits})
		for at := 0; at < len(all); at += size {
			s := strings.Clone(all[at:min(len(all), at+size)])
			x.Feed(s)
			x.Feed("")
			came := all[:min(len(all), at+size)]
			if len(x.last) >= api.HashPart || !strings.HasSuffix(came, x.last) || len(x.last) < min(len(came), 31) {
				t.Fatalf("12.2: behind %d bytes, %d at once, %q is kept", len(came), size, x.last)
			}
			if x.last != "" && unsafe.StringData(x.last) == unsafe.StringData(s) {
				t.Fatalf("12.2: of %d bytes that came the memory is kept", len(s))
			}
		}
	}
}

// What may not be a part is not kept, and a part is not looked for when it is found.
func TestNoMorePartsAreKept(t *testing.T) {
	x := New([]string{"", digits, digits[1:], digits + "0", strings.Repeat("e", 32), digits})
	if len(x.parts) != 2 || len(x.missed) != 1 {
		t.Error("12.2: kept:", x.parts, x.missed)
	}
	x.Feed(digits)
	if len(x.parts) != 2 || len(x.missed) != 0 {
		t.Error("12.2: kept behind what was found:", x.parts, x.missed)
	}
}
