package disk_test

import (
	"math"
	"slices"
	"strings"
	"testing"

	"shelfmark/api"
	"shelfmark/disk"
)

// full is a sector of the one byte c.
func full(c byte) string { return strings.Repeat(string([]byte{c}), api.Sector) }

func newDisk(t *testing.T, n int) *disk.Disk {
	t.Helper()
	d, e := disk.New(n)
	if e != api.OK || d == nil {
		t.Fatalf("New(%d): %v", n, e)
	}
	return d
}

func wantErr(t *testing.T, name string, got, want api.Errno) {
	t.Helper()
	if got != want {
		t.Errorf("%s: error %d, want %d", name, got, want)
	}
}

func wantLoose(t *testing.T, d *disk.Disk, want int) {
	t.Helper()
	if got := d.Loose(); got != want {
		t.Errorf("Loose: %d, want %d", got, want)
	}
}

func wantRead(t *testing.T, d *disk.Disk, i int, want string) {
	t.Helper()
	if got, e := d.Read(i); got != want || e != api.OK {
		t.Errorf("Read(%d): %q, error %d, want %q", i, got, e, want)
	}
}

// wantBytes holds all sectors against one byte each of s; those behind s are 0.
func wantBytes(t *testing.T, d *disk.Disk, s string) {
	t.Helper()
	for i := range d.Len() {
		if i < len(s) {
			wantRead(t, d, i, full(s[i]))
		} else {
			wantRead(t, d, i, full(0))
		}
	}
}

// put writes one sector of each byte of s, at the places of at.
func put(t *testing.T, d *disk.Disk, at []int, s string) {
	t.Helper()
	for k, i := range at {
		wantErr(t, "Write", d.Write(i, full(s[k])), api.OK)
	}
}

// bringDown burns the fuse; what is loose stays loose.
func bringDown(t *testing.T, d *disk.Disk) {
	t.Helper()
	d.Fuse(0)
	wantErr(t, "Write with a fuse of 0", d.Write(0, full('!')), api.ErrDown)
}

// 1.1: New, Len

func TestNewRange(t *testing.T) {
	for _, n := range []int{math.MinInt, -32, -1, 0, 1, api.LeastDisk - 1, api.MaxDisk + 1, math.MaxInt} {
		if d, e := disk.New(n); d != nil || e != api.ErrArg {
			t.Errorf("New(%d): %v, error %d", n, d, e)
		}
	}
	for _, n := range []int{api.LeastDisk, api.LeastDisk + 1, 1000, api.MaxDisk - 1, api.MaxDisk} {
		d := newDisk(t, n)
		if d.Len() != n {
			t.Errorf("Len: %d, want %d", d.Len(), n)
		}
		wantLoose(t, d, 0)
		wantBytes(t, d, "")
	}
}

func TestNewHasNoFuse(t *testing.T) {
	d := newDisk(t, 32)
	for range 3 * api.MaxDisk {
		wantErr(t, "Write", d.Write(31, full('a')), api.OK)
	}
	wantLoose(t, d, 3*api.MaxDisk)
}

// 1.1: Read, Write

func TestReadTellsTheLastWrite(t *testing.T) {
	d := newDisk(t, 32)
	put(t, d, []int{0, 31, 0, 5, 31}, "abcde")
	wantRead(t, d, 0, full('c'))
	wantRead(t, d, 5, full('d'))
	wantRead(t, d, 31, full('e'))
	wantRead(t, d, 1, full(0))
	wantRead(t, d, 30, full(0))
	wantErr(t, "Flush", d.Flush(), api.OK)
	wantRead(t, d, 0, full('c'))
	put(t, d, []int{0}, "f")
	wantRead(t, d, 0, full('f'))
}

func TestEveryByteStands(t *testing.T) {
	d := newDisk(t, 32)
	var all []byte
	for c := range 256 {
		all = append(all, byte(c))
	}
	for i := range 4 {
		wantErr(t, "Write", d.Write(i, string(all[i*64:i*64+64])), api.OK)
	}
	for range 2 {
		for i := range 4 {
			wantRead(t, d, i, string(all[i*64:i*64+64]))
		}
		wantErr(t, "Flush", d.Flush(), api.OK)
	}
}

func TestPlacesThatAreNone(t *testing.T) {
	for _, n := range []int{32, 33, 4096} {
		d := newDisk(t, n)
		put(t, d, []int{0, n - 1}, "az")
		for _, i := range []int{-1, -n, n, n + 1, math.MinInt, math.MaxInt} {
			s, e := d.Read(i)
			if s != "" {
				t.Errorf("Read(%d): %q", i, s)
			}
			wantErr(t, "Read", e, api.ErrArg)
			wantErr(t, "Write", d.Write(i, full('x')), api.ErrArg)
		}
		wantLoose(t, d, 2)
		wantRead(t, d, 0, full('a'))
		wantRead(t, d, n-1, full('z'))
	}
}

func TestSectorsOfAnotherLength(t *testing.T) {
	d := newDisk(t, 32)
	put(t, d, []int{3}, "a")
	for _, n := range []int{0, 1, api.Sector - 1, api.Sector + 1, 2 * api.Sector, 1000} {
		wantErr(t, "Write", d.Write(3, strings.Repeat("x", n)), api.ErrArg)
	}
	// 64 letters of more bytes each are no sector, and 32 of two bytes are one.
	wantErr(t, "Write of letters", d.Write(3, strings.Repeat("é", api.Sector)), api.ErrArg)
	wantLoose(t, d, 1)
	wantBytes(t, d, "\x00\x00\x00a")
	wantErr(t, "Write of letters", d.Write(3, strings.Repeat("é", api.Sector/2)), api.OK)
	wantRead(t, d, 3, strings.Repeat("é", api.Sector/2))
}

func TestEveryWriteIsLoose(t *testing.T) {
	d := newDisk(t, 32)
	for k := range 5 {
		wantLoose(t, d, k)
		wantErr(t, "Write", d.Write(7, full(0)), api.OK)
	}
	wantLoose(t, d, 5)
	wantErr(t, "Flush", d.Flush(), api.OK)
	wantLoose(t, d, 0)
}

// 1.1: Flush

func TestFlushMakesFirm(t *testing.T) {
	d := newDisk(t, 32)
	wantErr(t, "Flush of nothing", d.Flush(), api.OK)
	put(t, d, []int{0, 1, 0}, "abc")
	wantErr(t, "Flush", d.Flush(), api.OK)
	put(t, d, []int{1, 2}, "de")
	d.Crash(nil)
	wantBytes(t, d, "cb")
	wantLoose(t, d, 0)
}

func TestFlushOfManyWrites(t *testing.T) {
	d := newDisk(t, api.MaxDisk)
	for k := range 3 * api.MaxDisk {
		wantErr(t, "Write", d.Write(k%api.MaxDisk, full(byte(k/api.MaxDisk+k))), api.OK)
	}
	wantLoose(t, d, 3*api.MaxDisk)
	wantErr(t, "Flush", d.Flush(), api.OK)
	d.Crash([]int{0, 1, 2})
	for i := range api.MaxDisk {
		wantRead(t, d, i, full(byte(i+2)))
	}
}

// 1.1, 1.2: Fuse

func TestFuseIsUsedUp(t *testing.T) {
	for _, n := range []int{0, 1, 2, 7} {
		d := newDisk(t, 32)
		put(t, d, []int{31}, "z")
		d.Fuse(n)
		for k := range n {
			wantErr(t, "Write", d.Write(k, full('a')), api.OK)
		}
		wantRead(t, d, 31, full('z'))
		wantErr(t, "Write behind the fuse", d.Write(30, full('x')), api.ErrDown)
		wantLoose(t, d, n+1)
		wantErr(t, "Flush", d.Flush(), api.ErrDown)
		wantLoose(t, d, n+1)
		d.Crash([]int{0, 1, 2, 3, 4, 5, 6, 7, 8, 9})
		for i := range 32 {
			switch {
			case i < n:
				wantRead(t, d, i, full('a'))
			case i < 31:
				wantRead(t, d, i, full(0))
			}
		}
		wantRead(t, d, 31, full('z'))
	}
}

func TestOnlyWritesBurnTheFuse(t *testing.T) {
	d := newDisk(t, 32)
	d.Fuse(1)
	for range 3 {
		wantErr(t, "Write of no sector", d.Write(32, full('x')), api.ErrArg)
		wantErr(t, "Write of a short text", d.Write(0, "x"), api.ErrArg)
		wantErr(t, "Flush", d.Flush(), api.OK)
		wantErr(t, "Turn", d.Turn(9, 9, 9), api.OK)
		wantRead(t, d, 0, full(0))
		if d.Len() != 32 || d.Loose() != 0 {
			t.Error("Len, Loose", d.Len(), d.Loose())
		}
	}
	put(t, d, []int{0}, "a")
	// With nothing left, only a write that could be done takes it down.
	wantErr(t, "Write of no sector", d.Write(-1, full('x')), api.ErrArg)
	wantErr(t, "Write of no sector", d.Write(32, full('x')), api.ErrArg)
	wantErr(t, "Write of a long text", d.Write(0, full('x')+"x"), api.ErrArg)
	wantErr(t, "Flush", d.Flush(), api.OK)
	wantRead(t, d, 0, full('a'))
	wantErr(t, "Write", d.Write(0, full('b')), api.ErrDown)
	wantErr(t, "Flush", d.Flush(), api.ErrDown)
	d.Crash(nil)
	wantRead(t, d, 0, full('a'))
}

func TestFuseCountsFromNowOn(t *testing.T) {
	d := newDisk(t, 32)
	d.Fuse(2)
	put(t, d, []int{0}, "a")
	d.Fuse(2)
	put(t, d, []int{1, 2}, "bc")
	d.Fuse(1)
	put(t, d, []int{3}, "d")
	wantErr(t, "Flush", d.Flush(), api.OK)
	d.Fuse(math.MaxInt)
	put(t, d, []int{4, 5}, "ef")
	for _, n := range []int{-1, -2, math.MinInt} {
		d.Fuse(0)
		d.Fuse(n)
		put(t, d, []int{6, 7, 8, 9}, "ghij")
	}
	wantLoose(t, d, 14)
	d.Fuse(0)
	wantLoose(t, d, 14)
	wantBytes(t, d, "abcdefghij")
	wantErr(t, "Write", d.Write(0, full('x')), api.ErrDown)
}

func TestFuseTakesNoDiskUp(t *testing.T) {
	for _, n := range []int{-1, 0, 1, 100} {
		d := newDisk(t, 32)
		put(t, d, []int{0}, "a")
		bringDown(t, d)
		d.Fuse(n)
		wantErr(t, "Write", d.Write(0, full('b')), api.ErrDown)
		wantErr(t, "Flush", d.Flush(), api.ErrDown)
		_, e := d.Read(0)
		wantErr(t, "Read", e, api.ErrDown)
		wantLoose(t, d, 1)
		d.Crash(nil)
		put(t, d, []int{1, 1, 1}, "xyz")
		wantBytes(t, d, "\x00z")
	}
}

func TestDownIsAheadOfErrArg(t *testing.T) {
	d := newDisk(t, 33)
	put(t, d, []int{0, 1}, "ab")
	bringDown(t, d)
	for _, i := range []int{-1, 0, 1, 32, 33, math.MinInt, math.MaxInt} {
		s, e := d.Read(i)
		if s != "" {
			t.Errorf("Read(%d) of a disk that is down: %q", i, s)
		}
		wantErr(t, "Read", e, api.ErrDown)
		for _, s := range []string{"", "x", full('x'), full('x') + "x"} {
			wantErr(t, "Write", d.Write(i, s), api.ErrDown)
		}
	}
	wantErr(t, "Flush", d.Flush(), api.ErrDown)
	if d.Len() != 33 {
		t.Error("Len of a disk that is down:", d.Len())
	}
	wantLoose(t, d, 2)
	d.Crash([]int{0, 1, 2, 3})
	wantBytes(t, d, "ab")
}

// 1.2: Crash

func TestCrashKeeps(t *testing.T) {
	big := []int{math.MinInt, -4, -1, 4, 5, math.MaxInt}
	for _, c := range []struct {
		name string
		keep []int
		want string
	}{
		{"none", nil, "ABCD"},
		{"an empty list", []int{}, "ABCD"},
		{"the first", []int{0}, "aBCD"},
		{"the last", []int{3}, "dBCD"},
		{"one in the middle", []int{1}, "AbCD"},
		{"an older one alone", []int{2}, "cBCD"},
		{"two of one sector", []int{0, 2}, "cBCD"},
		{"all", []int{0, 1, 2, 3}, "dbCD"},
		{"in no order", []int{3, 0, 2}, "dBCD"},
		{"backward", []int{2, 1, 0}, "cbCD"},
		{"twice", []int{2, 2, 0, 2, 0}, "cBCD"},
		{"twice, an even number of times", []int{1, 1, 2, 2}, "cbCD"},
		{"of no write", big, "ABCD"},
		{"of no write, among others", append(slices.Clone(big), 1, 99, 0), "abCD"},
	} {
		for _, down := range []bool{false, true} {
			t.Run(c.name, func(t *testing.T) {
				d := newDisk(t, 32)
				put(t, d, []int{0, 1, 2, 3}, "ABCD")
				wantErr(t, "Flush", d.Flush(), api.OK)
				put(t, d, []int{0, 1, 0, 0}, "abcd")
				if down {
					bringDown(t, d)
				}
				d.Crash(c.keep)
				wantBytes(t, d, c.want)
				wantLoose(t, d, 0)
				// What it kept is firm, and what it dropped is gone for good.
				d.Crash([]int{0, 1, 2, 3})
				wantBytes(t, d, c.want)
			})
		}
	}
}

func TestCrashCountsLooseWritesAlone(t *testing.T) {
	d := newDisk(t, 32)
	put(t, d, []int{0, 1, 2}, "abc")
	wantErr(t, "Flush", d.Flush(), api.OK)
	wantErr(t, "Write", d.Write(32, full('x')), api.ErrArg)
	put(t, d, []int{3}, "d")
	wantErr(t, "Write", d.Write(3, "x"), api.ErrArg)
	put(t, d, []int{4, 5}, "ef")
	d.Crash([]int{1})
	wantBytes(t, d, "abc\x00e")
	put(t, d, []int{6, 7}, "gh")
	d.Crash([]int{0})
	wantBytes(t, d, "abc\x00e\x00g")
}

func TestCrashOfManyWrites(t *testing.T) {
	const n = 2*api.MaxDisk + 5
	d := newDisk(t, 32)
	var keep []int
	for k := range n {
		wantErr(t, "Write", d.Write(k%32, full(byte(k/32))), api.OK)
		if k/32 == k%32 || k == n-1 {
			keep = append(keep, k)
		}
	}
	slices.Reverse(keep)
	d.Crash(keep)
	for i := range 32 {
		want := full(byte(i))
		if i == (n-1)%32 {
			want = full(byte((n - 1) / 32 % 256))
		}
		wantRead(t, d, i, want)
	}
}

func TestCrashTakesUpWithoutFuse(t *testing.T) {
	for _, n := range []int{0, 1, 2} {
		d := newDisk(t, 32)
		d.Fuse(n)
		d.Crash(nil)
		for range 5 {
			wantErr(t, "Write", d.Write(0, full('a')), api.OK)
		}
		wantErr(t, "Flush", d.Flush(), api.OK)
		bringDown(t, d)
		d.Crash(nil)
		wantRead(t, d, 0, full('a'))
		put(t, d, []int{1, 2, 3}, "bcd")
		wantErr(t, "Flush", d.Flush(), api.OK)
		wantBytes(t, d, "abcd")
	}
}

func TestCrashLeavesKeepAlone(t *testing.T) {
	d := newDisk(t, 32)
	put(t, d, []int{0, 1, 2, 3}, "abcd")
	room := []int{3, -1, 0, 3, 77, 5, 6}
	d.Crash(room[:5])
	if !slices.Equal(room, []int{3, -1, 0, 3, 77, 5, 6}) {
		t.Error("R3: Crash changed what it was handed:", room)
	}
	for i := range room {
		room[i] = 1
	}
	put(t, d, []int{4, 5}, "ef")
	wantBytes(t, d, "a\x00\x00def")
}

// 1.2: Turn

func TestTurn(t *testing.T) {
	const n = 33
	for _, i := range []int{0, 1, n - 1} {
		for _, at := range []int{0, 1, api.Sector - 1} {
			for _, by := range []int{1, 2, 128, 255} {
				d := newDisk(t, n)
				put(t, d, []int{i}, "\xa5")
				wantErr(t, "Flush", d.Flush(), api.OK)
				wantErr(t, "Turn", d.Turn(i, at, by), api.OK)
				wantLoose(t, d, 0)
				want := []byte(full(0xa5))
				want[at] ^= byte(by)
				d.Crash(nil)
				for k := range n {
					if k == i {
						wantRead(t, d, k, string(want))
					} else {
						wantRead(t, d, k, full(0))
					}
				}
				wantErr(t, "Turn back", d.Turn(i, at, by), api.OK)
				wantRead(t, d, i, full(0xa5))
			}
		}
	}
}

func TestTurnIsSeenAtOnce(t *testing.T) {
	d := newDisk(t, 32)
	wantErr(t, "Turn", d.Turn(4, 10, 'q'), api.OK)
	wantErr(t, "Turn", d.Turn(4, 11, 'r'), api.OK)
	want := full(0)[:10] + "qr" + full(0)[12:]
	wantRead(t, d, 4, want)
	put(t, d, []int{4}, "z")
	wantRead(t, d, 4, full('z'))
	d.Crash(nil)
	wantRead(t, d, 4, want)
}

func TestTurnErrors(t *testing.T) {
	type args struct{ i, at, by int }
	wrong := []args{
		{-1, 0, 1}, {32, 0, 1}, {math.MinInt, 0, 1}, {math.MaxInt, 0, 1},
		{0, -1, 1}, {0, api.Sector, 1}, {0, math.MinInt, 1}, {0, math.MaxInt, 1},
		{0, 0, 0}, {0, 0, 256}, {0, 0, -1}, {0, 0, 257}, {0, 0, math.MinInt}, {0, 0, math.MaxInt},
	}
	d := newDisk(t, 32)
	for _, w := range wrong {
		wantErr(t, "Turn", d.Turn(w.i, w.at, w.by), api.ErrArg)
	}
	put(t, d, []int{1}, "a")
	for _, w := range wrong {
		wantErr(t, "Turn with a loose write", d.Turn(w.i, w.at, w.by), api.ErrArg)
	}
	wantErr(t, "Turn of another sector", d.Turn(0, 0, 1), api.ErrHave)
	wantErr(t, "Turn of the sector", d.Turn(1, 0, 1), api.ErrHave)
	wantBytes(t, d, "\x00a")
	bringDown(t, d)
	for _, w := range wrong {
		wantErr(t, "Turn, down", d.Turn(w.i, w.at, w.by), api.ErrArg)
	}
	wantErr(t, "Turn, down, with a loose write", d.Turn(1, 0, 1), api.ErrHave)
	d.Crash([]int{0})
	wantBytes(t, d, "\x00a")
}

func TestTurnOfADiskThatIsDown(t *testing.T) {
	d := newDisk(t, 32)
	put(t, d, []int{31}, "a")
	wantErr(t, "Flush", d.Flush(), api.OK)
	bringDown(t, d)
	wantErr(t, "Turn", d.Turn(31, 63, 'a'^'b'), api.OK)
	_, e := d.Read(31)
	wantErr(t, "Read", e, api.ErrDown)
	d.Crash(nil)
	wantRead(t, d, 31, full('a')[:63]+"b")
}

// 1.2: methods of nil

func TestNil(t *testing.T) {
	var d *disk.Disk
	d.Fuse(0)
	d.Fuse(-1)
	d.Crash(nil)
	d.Crash([]int{0})
	s, e := d.Read(0)
	if s != "" {
		t.Errorf("Read of nil: %q", s)
	}
	wantErr(t, "Read of nil", e, api.ErrArg)
	wantErr(t, "Write of nil", d.Write(0, full('a')), api.ErrArg)
	wantErr(t, "Flush of nil", d.Flush(), api.ErrArg)
	wantErr(t, "Turn of nil", d.Turn(0, 0, 1), api.ErrArg)
	if d.Len() != 0 || d.Loose() != 0 {
		t.Error("Len, Loose of nil:", d.Len(), d.Loose())
	}
}

// 1.3

func TestCrashThatKeepsAllIsAFlush(t *testing.T) {
	for _, at := range [][]int{{}, {0}, {0, 1, 2}, {5, 5, 5}, {31, 0, 31, 0, 7}, {1, 2, 1, 3, 2, 1}} {
		a, b, c := newDisk(t, 32), newDisk(t, 32), newDisk(t, 32)
		for _, d := range []*disk.Disk{a, b, c} {
			put(t, d, []int{0, 1, 5, 31}, "WXYZ")
			wantErr(t, "Flush", d.Flush(), api.OK)
			put(t, d, at, "abcdef")
		}
		var keep []int
		for k := range at {
			keep = append(keep, len(at)-1-k)
		}
		wantErr(t, "Flush", a.Flush(), api.OK)
		b.Crash(keep)
		bringDown(t, c)
		c.Crash(keep)
		for range 2 {
			for i := range 32 {
				s, _ := a.Read(i)
				wantRead(t, b, i, s)
				wantRead(t, c, i, s)
			}
			for _, d := range []*disk.Disk{a, b, c} {
				wantLoose(t, d, 0)
				d.Crash(nil)
			}
		}
	}
}

// R5

func TestDisksDoNotTouch(t *testing.T) {
	a, b := newDisk(t, 32), newDisk(t, 32)
	put(t, a, []int{0, 1}, "ab")
	wantLoose(t, b, 0)
	bringDown(t, a)
	put(t, b, []int{1}, "c")
	a.Crash([]int{0})
	wantLoose(t, b, 1)
	wantErr(t, "Turn", a.Turn(2, 0, 9), api.OK)
	for _, d := range []*disk.Disk{a, b} {
		wantErr(t, "Flush", d.Flush(), api.OK)
	}
	wantBytes(t, b, "\x00c")
	wantRead(t, a, 0, full('a'))
	wantRead(t, a, 1, full(0))
	wantRead(t, a, 2, "\x09"+full(0)[1:])
}
