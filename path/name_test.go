package path

import (
	"strings"
	"testing"
)

// label and row are texts of kinds of their own.
type (
	label string
	row   []byte
)

// digit: c is one.
func digit(c byte) bool { return '0' <= c && c <= '9' }

// wantAll holds all against want for each kind of texts.
func wantAll(t *testing.T, s string, so func(byte) bool, want bool) {
	t.Helper()
	for i, got := range []bool{all(s, so), all([]byte(s), so), all(label(s), so), all(row(s), so)} {
		if got != want {
			t.Errorf("Chapter 13, Ways: all of %q, kind %d: %v", s, i, got)
		}
	}
}

// Chapter 13, Ways: letters are looked at by a generic function.
func TestAllOfEachKind(t *testing.T) {
	wantAll(t, "", digit, true)
	wantAll(t, "", func(byte) bool { return false }, true)
	wantAll(t, "0123456789", digit, true)
	wantAll(t, "\x00\xff\u00e4", digit, false)
	wantAll(t, "\x00\xff\u00e4", func(byte) bool { return true }, true)
	for n := 1; n < 40; n++ {
		for i := range n {
			wantAll(t, strings.Repeat("7", i)+"x"+strings.Repeat("7", n-i-1), digit, false)
		}
		wantAll(t, strings.Repeat("7", n), digit, true)
	}
	if !all[[]byte](nil, digit) || !all[row](nil, digit) {
		t.Error("Chapter 13, Ways: all of nil")
	}
}

// Each letter is looked at, as bytes, from the front, until one is not so.
func TestAllGoesThroughBytes(t *testing.T) {
	for stop := range 8 {
		var came []byte
		all("a\u00e4\xff\x00\u20acz", func(c byte) bool {
			came = append(came, c)
			return len(came) <= stop
		})
		if want := "a\u00e4\xff\x00\u20acz"[:stop+1]; string(came) != want {
			t.Errorf("Chapter 13, Ways: looked at %q, want %q", came, want)
		}
	}
}

func TestFits(t *testing.T) {
	const letters = "ABCDEFGHIJKLMNOPQRSTUVWXYZabcdefghijklmnopqrstuvwxyz0123456789+-._?="
	n := 0
	for c := range 256 {
		if fits(byte(c)) {
			n++
		}
		if want := strings.IndexByte(letters, byte(c)) >= 0; fits(byte(c)) != want {
			t.Errorf("13.1: the letter %q: %v, want %v", rune(c), !want, want)
		}
	}
	if n != 68 {
		t.Errorf("13.1: %d letters", n)
	}
}
