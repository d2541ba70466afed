package point

import (
	"shelfmark/api"
	"shelfmark/field"
)

// ratio is the point whose numbers are x over z and y over z, their product being
// xy over z: many sums then need one Inv alone, at their end.
type ratio struct {
	x, y, z, xy api.Num
}

// over is p as a ratio.
func over(p api.Point) ratio {
	return ratio{x: p.X, y: p.Y, z: api.Num{1}, xy: field.Mul(p.X, p.Y)}
}

// plain is r as a point.
func plain(r ratio) api.Point {
	n := field.Inv(r.z)
	return api.Point{X: field.Mul(r.x, n), Y: field.Mul(r.y, n)}
}

// sum is p and q added.
func sum(p, q ratio) ratio {
	one := field.Mul(p.z, q.z)
	k := field.Mul(d, field.Mul(p.xy, q.xy))
	x := field.Add(field.Mul(p.x, q.y), field.Mul(p.y, q.x))
	y := field.Add(field.Mul(p.y, q.y), field.Mul(p.x, q.x))
	// The sum is x over more and y over less. Neither is ever 0 if both points
	// are of the curve, since minus 1 is a square, and d is none.
	more, less := field.Add(one, k), field.Sub(one, k)
	return ratio{
		x:  field.Mul(x, less),
		y:  field.Mul(y, more),
		z:  field.Mul(more, less),
		xy: field.Mul(x, y),
	}
}
