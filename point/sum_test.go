package point

import (
	"testing"

	"shelfmark/api"
	"shelfmark/field"
)

// some are points, those of one, two and four turns among them.
func some() []api.Point {
	last := field.Sub(api.Num{}, api.Num{1})
	turn, _ := field.Root(last)
	twice := Add(base, base)
	return []api.Point{
		{Y: api.Num{1}}, base, {Y: last}, {X: turn}, {X: field.Sub(api.Num{}, turn)},
		{X: field.Sub(api.Num{}, base.X), Y: base.Y}, {X: base.X, Y: field.Sub(api.Num{}, base.Y)},
		twice, Add(twice, base), Add(base, api.Point{X: turn}),
	}
}

// wide is p as a ratio over n.
func wide(p api.Point, n api.Num) ratio {
	r := over(p)
	return ratio{x: field.Mul(r.x, n), y: field.Mul(r.y, n), z: field.Mul(r.z, n), xy: field.Mul(r.xy, n)}
}

// A ratio stands for the same point, whatever it is over, and so does a sum.
func TestRatio(t *testing.T) {
	for _, p := range some() {
		for _, n := range []api.Num{{1}, {2}, {19}, {1, 2, 3, 4}, field.Sub(api.Num{}, api.Num{1})} {
			if got := plain(wide(p, n)); got != p {
				t.Errorf("%x over %x: %x", p, n, got)
			}
			for _, q := range some() {
				r := sum(wide(p, n), wide(q, api.Num{7}))
				if got, want := plain(r), Add(p, q); got != want {
					t.Errorf("%x over %x, and %x: %x, want %x", p, n, q, got, want)
				}
				if field.Mul(r.xy, r.z) != field.Mul(r.x, r.y) || r.z == (api.Num{}) {
					t.Errorf("%x over %x, and %x: %x", p, n, q, r)
				}
			}
		}
	}
}

func TestD(t *testing.T) {
	want := field.Mul(field.Sub(api.Num{}, api.Num{121665}), field.Inv(api.Num{121666}))
	if d != want {
		t.Errorf("d: %x, want %x", d, want)
	}
}

// Were d a square, some sums would be over 0.
func TestDIsNoSquare(t *testing.T) {
	_, square := field.Root(d)
	_, turned := field.Root(field.Sub(api.Num{}, api.Num{1}))
	if square || !turned {
		t.Errorf("d is a square: %v; minus 1: %v", square, turned)
	}
}
