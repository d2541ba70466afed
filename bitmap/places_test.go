package bitmap

import (
	"slices"
	"testing"

	"shelfmark/api"
)

// Chapter 15, Ways: places come from an iterator: to its end, left early, and gone
// through again from its beginning.
func TestPlaces(t *testing.T) {
	for _, c := range []struct {
		l    []api.Run
		want []int
	}{
		{nil, nil},
		{[]api.Run{}, nil},
		{[]api.Run{{}}, nil},
		{[]api.Run{{At: 5, N: 1}}, []int{5}},
		{[]api.Run{{At: 5, N: 3}}, []int{5, 6, 7}},
		{[]api.Run{{At: 5, N: 0}, {At: 6, N: -3}}, nil},
		{[]api.Run{{At: 9, N: 2}, {At: 4, N: -1}, {At: -1, N: 3}, {At: 0, N: 1}, {At: 0, N: 0}}, []int{9, 10, -1, 0, 1, 0}},
		{[]api.Run{{At: 1 << 20, N: 2}, {At: -1 << 20, N: 1}}, []int{1 << 20, 1<<20 + 1, -1 << 20}},
	} {
		l := places(c.l)
		for n := 1; n <= len(c.want); n++ {
			var got []int
			for at := range l {
				got = append(got, at)
				if len(got) == n {
					break
				}
			}
			if !slices.Equal(got, c.want[:n]) {
				t.Errorf("places of %v, left behind %d: %v", c.l, n, got)
			}
		}
		if got := slices.Collect(l); !slices.Equal(got, c.want) {
			t.Errorf("places of %v: %v, want %v", c.l, got, c.want)
		}
	}
}

// Chapter 15, Ways: a generic function counts, whatever it is that counts.
func TestTotal(t *testing.T) {
	if n := total([]string{"a", "", "bcd"}, func(s string) int { return len(s) }); n != 4 {
		t.Error("total of texts:", n)
	}
	if n := total([]int{5, -7, 0, 1}, func(n int) int { return n }); n != -1 {
		t.Error("total of numbers:", n)
	}
	if n := total(nil, func(string) int { return 1 }); n != 0 {
		t.Error("total of none:", n)
	}
	if n := total([]api.Run{{At: 3, N: 5}, {At: 7, N: -2}, {At: -1, N: 0}, {At: 0, N: 1}}, length); n != 6 {
		t.Error("total of runs:", n)
	}
}

func TestRising(t *testing.T) {
	l := []api.Run{{At: 5, N: 1}, {At: -3, N: 2}, {At: 0, N: 0}, {At: 9, N: -1}, {At: -4, N: 1}, {At: 5, N: 1}}
	was := slices.Clone(l)
	got := rising(l)
	if want := []api.Run{{At: -4, N: 1}, {At: -3, N: 2}, {At: 5, N: 1}, {At: 5, N: 1}}; !slices.Equal(got, want) {
		t.Errorf("rising: %v, want %v", got, want)
	}
	if !slices.Equal(l, was) {
		t.Error("R3: what was handed in is now", l)
	}
}
