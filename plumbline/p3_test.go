package plumbline_test

import (
	"math"
	"math/rand"
	"testing"

	"plumbline/api"
)

// checkOrient asks in all orders: a turn keeps its sign when the points go round, and changes it when two change places.
func checkOrient(t *testing.T, a, b, c api.Point, want int) {
	t.Helper()
	for range 3 {
		checkAnswer(t, orient(), want, a, b, c)
		checkAnswer(t, orient(), -want, b, a, c)
		a, b, c = b, c, a
	}
}

func TestP3Example(t *testing.T) {
	checkOrient(t, pt(0, 0), pt(4, 0), pt(1, 1), 1)
	checkOrient(t, pt(0, 0), pt(4, 0), pt(2, 0), 0)
	checkOrient(t, pt(0.5, 0.5), pt(12, 12), pt(24, 24), 0)
	checkOrient(t, pt(0.5+math.Ldexp(1, -53), 0.5), pt(12, 12), pt(24, 24), -1)
}

func TestP3Ordinary(t *testing.T) {
	checkOrient(t, pt(0, 0), pt(1, 0), pt(0, 1), 1)
	checkOrient(t, pt(0, 0), pt(0, 1), pt(1, 0), -1)
	checkOrient(t, pt(-3, -5), pt(7, 2), pt(1, -1), 1)
	checkOrient(t, pt(-3, -5), pt(7, 2), pt(17, 9), 0)
	checkOrient(t, pt(2, 3), pt(2, 3), pt(9, 1), 0)
	checkOrient(t, pt(2, 3), pt(2, 3), pt(2, 3), 0)
}

func TestP3Edges(t *testing.T) {
	h, l, top := high(), low(), highest()
	checkOrient(t, pt(0, minus0()), pt(minus0(), 0), pt(1, 1), 0)
	checkOrient(t, pt(minus0(), minus0()), pt(l, 0), pt(0, l), 1)
	checkOrient(t, pt(-h, -h), pt(h, h), pt(l, 0), -1)
	checkOrient(t, pt(-h, -h), pt(h, h), pt(0, l), 1)
	checkOrient(t, pt(-h, -h), pt(h, h), pt(l, l), 0)
	checkOrient(t, pt(-h, 0), pt(h, 2*l), pt(0, l), 0)
	checkOrient(t, pt(-h, 0), pt(h, l), pt(0, l), 1)
	checkOrient(t, pt(-top, -top), pt(top, top), pt(0, 0), 0)
	checkOrient(t, pt(-top, -top), pt(top, top), pt(l, 0), -1)
	checkOrient(t, pt(-top, top), pt(top, -top), pt(l, 0), 1)
	checkOrient(t, pt(-top, top), pt(top, -top), pt(-l, l), 0)
	checkOrient(t, pt(-top, -top), pt(top, -top), pt(-top, top), 1)
	checkOrient(t, pt(-top, -top), pt(top, math.Nextafter(top, 0)), pt(0, 0), 1)
}

// TestP3HairOffALine: points on a line through whole numbers, then one coordinate of them a hair further.
func TestP3HairOffALine(t *testing.T) {
	r := rand.New(rand.NewSource(9))
	offLine := 0
	for range 3000 {
		x, y, dx, dy := r.Int63n(1<<40), r.Int63n(1<<40), r.Int63n(1<<30), r.Int63n(1<<30)
		at := scaled(r.Intn(150) - 100)
		var l [3]api.Point
		for i := range l {
			k := r.Int63n(1<<12) - 1<<11
			l[i] = at(x+k*dx, y+k*dy)
		}
		if checkNudged(t, r, orient(), 0, l[:]...) {
			offLine++
		}
	}
	if offLine < 1000 {
		t.Errorf("only %d draws lie off the line", offLine)
	}
}

func TestP3Drawn(t *testing.T) {
	r := rand.New(rand.NewSource(10))
	for range 10000 {
		l := drawPoints(r, 3)
		checkOrient(t, l[0], l[1], l[2], orientByRats(l...))
	}
}
