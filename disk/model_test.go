package disk_test

import (
	"slices"
	"testing"

	"shelfmark/api"
	"shelfmark/disk"
)

// model is a disk told in the plainest way: what is firm, and the loose writes
// as they came; whatever is asked is worked out from these anew.
type model struct {
	firm  []string
	at    []int
	loose []string
	fused bool
	left  int
	down  bool
}

func newModel(n int) *model { return &model{firm: slices.Repeat([]string{full(0)}, n)} }

func (m *model) has(i int) bool { return 0 <= i && i < len(m.firm) }

func (m *model) read(i int) (string, api.Errno) {
	if m.down {
		return "", api.ErrDown
	}
	if !m.has(i) {
		return "", api.ErrArg
	}
	s := m.firm[i]
	for k, at := range m.at {
		if at == i {
			s = m.loose[k]
		}
	}
	return s, api.OK
}

func (m *model) write(i int, s string) api.Errno {
	if m.down {
		return api.ErrDown
	}
	if !m.has(i) || len(s) != api.Sector {
		return api.ErrArg
	}
	if m.fused && m.left == 0 {
		m.down = true
		return api.ErrDown
	}
	m.left--
	m.at, m.loose = append(m.at, i), append(m.loose, s)
	return api.OK
}

func (m *model) settle(kept func(int) bool) {
	for k, at := range m.at {
		if kept(k) {
			m.firm[at] = m.loose[k]
		}
	}
	m.at, m.loose = nil, nil
}

func (m *model) flush() api.Errno {
	if m.down {
		return api.ErrDown
	}
	m.settle(func(int) bool { return true })
	return api.OK
}

func (m *model) crash(keep []int) {
	m.settle(func(k int) bool { return slices.Contains(keep, k) })
	m.fused, m.down = false, false
}

func (m *model) turn(i, at, by int) api.Errno {
	if !m.has(i) || at < 0 || at >= api.Sector || by < 1 || by > 255 {
		return api.ErrArg
	}
	if len(m.loose) > 0 {
		return api.ErrHave
	}
	b := []byte(m.firm[i])
	b[at] ^= byte(by)
	m.firm[i] = string(b)
	return api.OK
}

// draw is a row of numbers that is the same in every run.
type draw uint64

func (r *draw) below(n int) int {
	*r = *r*6364136223846793005 + 1442695040888963407
	return int(uint64(*r)>>33) % n
}

// near is a number from 0 to n less 1, and now and then one beside these.
func (r *draw) near(n int) int {
	if r.below(6) > 0 {
		return r.below(n)
	}
	return []int{-1, n, -n, n + 1}[r.below(4)]
}

func (r *draw) text() string {
	switch r.below(12) {
	case 0:
		return full(byte(r.below(256)))[1:]
	case 1:
		return full(byte(r.below(256))) + "x"
	}
	b := make([]byte, api.Sector)
	for k := range b {
		b[k] = byte(r.below(256))
	}
	return string(b)
}

func (r *draw) keep(loose int) []int {
	var keep []int
	for range r.below(loose + 3) {
		keep = append(keep, r.near(loose+1))
	}
	return keep
}

// step does one call on both and holds the errors against one another.
func step(t *testing.T, r *draw, d *disk.Disk, m *model, n int) {
	t.Helper()
	switch r.below(24) {
	default:
		i, s := r.near(n), r.text()
		wantErr(t, "Write", d.Write(i, s), m.write(i, s))
	case 0, 1:
		wantErr(t, "Flush", d.Flush(), m.flush())
	case 2:
		fuse := r.below(8) - 2
		d.Fuse(fuse)
		m.fused, m.left = fuse >= 0, fuse
	case 3, 4:
		keep := r.keep(d.Loose())
		d.Crash(keep)
		m.crash(keep)
	case 5, 6, 7:
		i, at, by := r.near(n), r.near(api.Sector), 1+r.near(255)
		wantErr(t, "Turn", d.Turn(i, at, by), m.turn(i, at, by))
	}
}

func alike(t *testing.T, d *disk.Disk, m *model, n int) {
	t.Helper()
	if d.Len() != n || d.Loose() != len(m.loose) {
		t.Fatalf("Len %d, Loose %d; want %d, %d", d.Len(), d.Loose(), n, len(m.loose))
	}
	for i := -1; i <= n; i++ {
		got, e := d.Read(i)
		want, f := m.read(i)
		if got != want || e != f {
			t.Fatalf("Read(%d): %q, error %d; want %q, error %d", i, got, e, want, f)
		}
	}
}

// 1.1 and 1.2 in long rows of calls, and R5: two disks go through the same
// calls, one a step behind the other.
func TestAsTheModel(t *testing.T) {
	for seed := range 40 {
		const n = 32
		a, b := newDisk(t, n), newDisk(t, n)
		ma, mb := newModel(n), newModel(n)
		ra, rb := draw(seed), draw(seed)
		for range 200 {
			step(t, &ra, a, ma, n)
			alike(t, a, ma, n)
			alike(t, b, mb, n)
			step(t, &rb, b, mb, n)
			if t.Failed() {
				t.Fatal("seed", seed)
			}
		}
		alike(t, b, ma, n)
	}
}
