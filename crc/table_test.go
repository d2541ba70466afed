package crc

import (
	"hash/crc32"
	"hash/crc64"
	"testing"
)

// plain is the table of poly, each number by eight halves of its place.
func plain[W word](poly W) [256]W {
	var t [256]W
	for i := range t {
		t[i] = W(i)
		for range 8 {
			t[i] = half(t[i], poly)
		}
	}
	return t
}

// Chapter 2, Ways: the one function makes a table of any kind of numbers.
func TestTableOfEachKind(t *testing.T) {
	if table[uint8](0x8c) != plain[uint8](0x8c) {
		t.Error("a table of numbers of 8 bits")
	}
	if table[uint16](0xa001) != plain[uint16](0xa001) {
		t.Error("a table of numbers of 16 bits")
	}
	for _, poly := range []uint32{crc32.IEEE, crc32.Castagnoli, crc32.Koopman} {
		if table(poly) != plain(poly) || table(poly) != [256]uint32(*crc32.MakeTable(poly)) {
			t.Error("a table of numbers of 32 bits:", poly)
		}
	}
	for _, poly := range []uint64{crc64.ISO, crc64.ECMA} {
		if table(poly) != plain(poly) || table(poly) != [256]uint64(*crc64.MakeTable(poly)) {
			t.Error("a table of numbers of 64 bits:", poly)
		}
	}
}
