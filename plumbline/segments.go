package plumbline

import "plumbline/exact"

// lies tells whether p lies on the segment from a to b.
func lies(p, a, b spot) bool {
	return between(p.x, a.x, b.x) && between(p.y, a.y, b.y) && turn(a, b, p) == 0
}

// between tells whether x is a, b or between them.
func between(x, a, b float64) bool {
	return exact.Least(a, b) <= x && x <= exact.Greatest(a, b)
}

// parts tells whether the line from a to b has c on one side and d on the other, neither of them on it.
func parts(a, b, c, d spot) bool {
	toC, toD := turn(a, b, c), turn(a, b, d)
	return exact.Least(toC, toD) == -1 && exact.Greatest(toC, toD) == 1
}

// meet tells how two segments meet: see DOC.md, P6.
func meet(a, b, c, d spot) int {
	if parts(a, b, c, d) && parts(c, d, a, b) {
		return 2
	}
	// Segments that do not cross have a point in common only if one of the four ends is such a point.
	if lies(c, a, b) || lies(d, a, b) || lies(a, c, d) || lies(b, c, d) {
		return 1
	}
	return 0
}

// crosses tells whether the segment from u to v crosses the half-line from p to the greater X.
//
// An end at p's own height does not count as above it: so the half-line through a corner meets one edge of it where the edges go on upwards or downwards, and two or none where they turn back.
func crosses(u, v, p spot) bool {
	lower, upper := u, v
	if v.y < u.y {
		lower, upper = v, u
	}
	onlyOneAbove := lower.y <= p.y && p.y < upper.y
	return onlyOneAbove && turn(lower, upper, p) > 0
}

// inside tells where p lies in a polygon: see DOC.md, P7.
func inside(corners []spot, p spot) int {
	crossings := 0
	for i, v := range corners {
		u := corners[(i+len(corners)-1)%len(corners)]
		if lies(p, u, v) {
			return 0
		}
		if crosses(u, v, p) {
			crossings++
		}
	}
	if crossings%2 == 1 {
		return 1
	}
	return -1
}
