// Package plumbline: exact answers about points: see DOC.md.
package plumbline

import (
	"plumbline/api"
	"plumbline/exact"
)

// Orient tells on which side a point lies (P3).
func Orient(a, b, c api.Point) (int, api.Errno) {
	s, err := spots(a, b, c)
	if err != api.OK {
		return 0, err
	}
	return turn(s[0], s[1], s[2]), api.OK
}

// Nearer tells which of two points is nearer to one (P4).
func Nearer(a, b, c api.Point) (int, api.Errno) {
	s, err := spots(a, b, c)
	if err != api.OK {
		return 0, err
	}
	toB, toC := length2(wayFrom(s[0], s[1])), length2(wayFrom(s[0], s[2]))
	return exact.Total(toC, toB.Negative()).Sign(), api.OK
}

// InCircle tells whether a point lies within a circle (P5).
func InCircle(a, b, c, d api.Point) (int, api.Errno) {
	s, err := spots(a, b, c, d)
	if err != api.OK {
		return 0, err
	}
	u, v, w := wayFrom(s[3], s[0]), wayFrom(s[3], s[1]), wayFrom(s[3], s[2])
	return exact.Total(
		exact.Product(length2(u), cross(v, w)),
		exact.Product(length2(v), cross(w, u)),
		exact.Product(length2(w), cross(u, v)),
	).Sign(), api.OK
}

// Meet tells how two segments meet (P6).
func Meet(a, b, c, d api.Point) (int, api.Errno) {
	s, err := spots(a, b, c, d)
	if err != api.OK {
		return 0, err
	}
	return meet(s[0], s[1], s[2], s[3]), api.OK
}

// Inside tells whether a point lies within a polygon (P7).
func Inside(l []api.Point, p api.Point) (int, api.Errno) {
	if len(l) > api.MaxPoints {
		return 0, api.ErrMany
	}
	corners, err := spots(l...)
	if err != api.OK {
		return 0, err
	}
	at, err := spots(p)
	if err != api.OK {
		return 0, err
	}
	return inside(corners, at[0]), api.OK
}

// Hull tells the corners of all points (P8).
func Hull(l []api.Point) ([]int, api.Errno) {
	if len(l) > api.MaxPoints {
		return nil, api.ErrMany
	}
	all, err := spots(l...)
	if err != api.OK {
		return nil, err
	}
	return hull(all), api.OK
}
