package plumbline

import (
	"math"

	"plumbline/api"
	"plumbline/exact"
)

// spot: a point whose coordinates have been looked at: they may be.
type spot struct {
	x, y float64
}

// spots reads points, or tells that a coordinate may not be.
func spots(points ...api.Point) ([]spot, api.Errno) {
	out := make([]spot, 0, len(points))
	for _, p := range points {
		s := spot{math.Float64frombits(p.X), math.Float64frombits(p.Y)}
		if !mayBe(s.x) || !mayBe(s.y) {
			return nil, api.ErrNumber
		}
		out = append(out, s)
	}
	return out, api.OK
}

// mayBe tells whether a coordinate may be: see DOC.md, 'Words'.
func mayBe(x float64) bool {
	const bound = 1 << api.High
	const unitsInOne = 1 << -api.Low
	inBounds := math.Abs(x) < bound // not so for what is no number
	if !inBounds {
		return false
	}
	units := x * unitsInOne // not rounded: only the exponent grows, and it has room
	return units == math.Trunc(units)
}

// way: how far it is from one spot to another.
type way struct {
	x, y exact.Number
}

func wayFrom(p, q spot) way {
	return way{exact.Sum(q.x, -p.x), exact.Sum(q.y, -p.y)}
}

// length2 is the square of a way's length: the length itself has no exact number.
func length2(w way) exact.Number {
	return exact.Total(exact.Square(w.x), exact.Square(w.y))
}

// cross is above 0, if w goes to the left of v.
func cross(v, w way) exact.Number {
	return exact.Total(exact.Product(v.x, w.y), exact.Product(v.y, w.x).Negative())
}

// turn is the sign of the turn of three points: see DOC.md, 'Words'.
func turn(a, b, c spot) int {
	return cross(wayFrom(a, b), wayFrom(a, c)).Sign()
}
