// Package plumbline: exact answers about points: see DOC.md.
package plumbline

import (
	"plumbline/api"
	"plumbline/exact"
)

// Orient tells on which side a point lies (P3).
func Orient(a, b, c api.Point) (int, api.Errno) {
	s, err := spots(a, b, c)
	if err != api.OK {
		return 0, err
	}
	return turn(s[0], s[1], s[2]).Sign(), api.OK
}

// Nearer tells which of two points is nearer to one (P4).
func Nearer(a, b, c api.Point) (int, api.Errno) {
	s, err := spots(a, b, c)
	if err != api.OK {
		return 0, err
	}
	toB, toC := distance2(s[0], s[1]), distance2(s[0], s[2])
	return exact.Total(toC, toB.Negative()).Sign(), api.OK
}

// InCircle tells whether a point lies within a circle (P5).
func InCircle(a, b, c, d api.Point) (int, api.Errno) { return 0, api.OK }

// Meet tells how two segments meet (P6).
func Meet(a, b, c, d api.Point) (int, api.Errno) { return 0, api.OK }

// Inside tells whether a point lies within a polygon (P7).
func Inside(l []api.Point, p api.Point) (int, api.Errno) { return 0, api.OK }

// Hull tells the corners of all points (P8).
func Hull(l []api.Point) ([]int, api.Errno) { return nil, api.OK }
