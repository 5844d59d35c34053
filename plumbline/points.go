package plumbline

import (
	"math"

	"plumbline/api"
	"plumbline/exact"
)

// spot: a point whose coordinates have been looked at: they may be.
type spot struct {
	x, y float64
}

// spots reads points, or tells that a coordinate may not be.
func spots(points ...api.Point) ([]spot, api.Errno) {
	out := make([]spot, 0, len(points))
	for _, p := range points {
		s := spot{math.Float64frombits(p.X), math.Float64frombits(p.Y)}
		if !mayBe(s.x) || !mayBe(s.y) {
			return nil, api.ErrNumber
		}
		out = append(out, s)
	}
	return out, api.OK
}

// mayBe tells whether a coordinate may be: see DOC.md, 'Words'.
func mayBe(x float64) bool {
	const bound = 1 << api.High
	const unitsInOne = 1 << -api.Low
	inBounds := math.Abs(x) < bound // not so for what is no number
	if !inBounds {
		return false
	}
	units := x * unitsInOne // not rounded: only the exponent grows, and it has room
	return units == math.Trunc(units)
}

// turn of three points: see DOC.md, 'Words'.
func turn(a, b, c spot) exact.Number {
	left := exact.Product(exact.Sum(b.x, -a.x), exact.Sum(c.y, -a.y))
	right := exact.Product(exact.Sum(b.y, -a.y), exact.Sum(c.x, -a.x))
	return exact.Total(left, right.Negative())
}

// distance2 is the square of the distance of two points: the distance itself has no exact number.
func distance2(p, q spot) exact.Number {
	return exact.Total(exact.Square(exact.Sum(q.x, -p.x)), exact.Square(exact.Sum(q.y, -p.y)))
}
