// Package disk: see DOC.md, chapter 1.
package disk

import (
	"iter"

	"shelfmark/api"
)

// block is what stands in a sector: a value, so that nothing handed in is kept.
type block [api.Sector]byte

// sector keeps both of its states side by side, so that Read needs not go
// through the loose writes.
type sector struct {
	firm block // what no crash takes away
	now  block // what was written last, loose or firm
}

// write is one that may yet be lost.
type write struct {
	at    int
	bytes block
}

// Disk has sectors that may be lost.
type Disk struct {
	sectors []sector
	loose   []write // in order
	fuse    int     // writes left; below 0 there is no fuse
	down    bool
}

// New makes a disk of n sectors, each of bytes 0, up, without a fuse.
func New(n int) (*Disk, api.Errno) {
	if n < api.LeastDisk || n > api.MaxDisk {
		return nil, api.ErrArg
	}
	return &Disk{sectors: make([]sector, n), fuse: -1}, api.OK
}

// Len is how many sectors there are.
func (d *Disk) Len() int {
	if d == nil {
		return 0
	}
	return len(d.sectors)
}

// Read tells what was written to sector i last.
func (d *Disk) Read(i int) (string, api.Errno) {
	switch {
	case d == nil:
		return "", api.ErrArg
	case d.down:
		return "", api.ErrDown
	case !d.has(i):
		return "", api.ErrArg
	}
	return string(d.sectors[i].now[:]), api.OK
}

// Write puts s into sector i; it is loose until a Flush.
func (d *Disk) Write(i int, s string) api.Errno {
	switch {
	case d == nil:
		return api.ErrArg
	case d.down:
		return api.ErrDown
	case !d.has(i) || len(s) != api.Sector:
		return api.ErrArg
	case d.fuse == 0:
		d.down = true
		return api.ErrDown
	}
	if d.fuse > 0 {
		d.fuse--
	}
	w := write{at: i}
	copy(w.bytes[:], s)
	d.loose = append(d.loose, w)
	d.sectors[i].now = w.bytes
	return api.OK
}

// Flush makes all loose writes firm.
func (d *Disk) Flush() api.Errno {
	switch {
	case d == nil:
		return api.ErrArg
	case d.down:
		return api.ErrDown
	}
	for _, s := range d.written() {
		s.firm = s.now
	}
	d.loose = nil
	return api.OK
}

// Loose is how many writes are loose.
func (d *Disk) Loose() int {
	if d == nil {
		return 0
	}
	return len(d.loose)
}

// Fuse leaves n writes from now on; of n below 0 there is no fuse.
func (d *Disk) Fuse(n int) {
	if d != nil {
		d.fuse = n
	}
}

// Crash makes those loose writes firm whose numbers are in keep; the others
// never were. The disk is up, without a fuse.
func (d *Disk) Crash(keep []int) {
	if d == nil {
		return
	}
	kept := marks(keep, len(d.loose))
	for k, s := range d.written() {
		if kept[k] {
			s.firm = d.loose[k].bytes
		}
	}
	for _, s := range d.written() {
		s.now = s.firm
	}
	d.loose, d.fuse, d.down = nil, -1, false
}

// Turn makes byte at of sector i exclusive or by.
func (d *Disk) Turn(i, at, by int) api.Errno {
	switch {
	case d == nil || !d.has(i):
		return api.ErrArg
	case at < 0 || at >= api.Sector || by < 1 || by > 255:
		return api.ErrArg
	case len(d.loose) > 0:
		return api.ErrHave
	}
	s := &d.sectors[i]
	s.firm[at] ^= byte(by)
	s.now = s.firm
	return api.OK
}

func (d *Disk) has(i int) bool { return i >= 0 && i < len(d.sectors) }

// written goes through the sectors of the loose writes, with the writes'
// numbers, in order: no other sector can differ from what is firm.
func (d *Disk) written() iter.Seq2[int, *sector] {
	return func(yield func(int, *sector) bool) {
		for k, w := range d.loose {
			if !yield(k, &d.sectors[w.at]) {
				return
			}
		}
	}
}

// marks tells of each number from 0 to n less 1 whether it is in keep.
func marks(keep []int, n int) []bool {
	kept := make([]bool, n)
	for _, k := range keep {
		if k >= 0 && k < n {
			kept[k] = true
		}
	}
	return kept
}
