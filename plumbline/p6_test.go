package plumbline_test

import (
	"math"
	"math/rand"
	"testing"

	"plumbline/api"
)

// checkMeet asks with the ends and the segments in each other's places: that changes nothing.
func checkMeet(t *testing.T, a, b, c, d api.Point, want int) {
	t.Helper()
	for range 2 {
		checkAnswer(t, meet(), want, a, b, c, d)
		checkAnswer(t, meet(), want, b, a, c, d)
		checkAnswer(t, meet(), want, a, b, d, c)
		checkAnswer(t, meet(), want, b, a, d, c)
		a, b, c, d = c, d, a, b
	}
}

func TestP6Example(t *testing.T) {
	checkMeet(t, pt(0, 0), pt(2, 2), pt(0, 2), pt(2, 0), 2)
	checkMeet(t, pt(0, 0), pt(2, 0), pt(1, 0), pt(3, 0), 1)
	checkMeet(t, pt(0, 0), pt(1, 1), pt(2, 2), pt(3, 3), 0)
	checkMeet(t, pt(0, 0), pt(2, 0), pt(1, 0), pt(1, 5), 1)
}

func TestP6Ordinary(t *testing.T) {
	checkMeet(t, pt(0, 0), pt(4, 0), pt(0, 1), pt(4, 1), 0)     // beside each other
	checkMeet(t, pt(0, 0), pt(4, 0), pt(5, -1), pt(5, 1), 0)    // one is parted by the other's line
	checkMeet(t, pt(0, 0), pt(4, 0), pt(1, 1), pt(3, 5), 0)     // neither is
	checkMeet(t, pt(0, 0), pt(4, 0), pt(4, 0), pt(4, 4), 1)     // end at end
	checkMeet(t, pt(0, 0), pt(4, 0), pt(4, -1), pt(4, 1), 1)    // end within
	checkMeet(t, pt(0, 0), pt(4, 0), pt(5, 0), pt(5, 1), 0)     // an end on the other's line alone
	checkMeet(t, pt(-3, -1), pt(5, 3), pt(0, 9), pt(1, -9), 2)  // across
	checkMeet(t, pt(-3, -1), pt(5, 3), pt(-1, 0), pt(3, 2), 1)  // one within the other
	checkMeet(t, pt(-3, -1), pt(5, 3), pt(-3, -1), pt(5, 3), 1) // the same
	checkMeet(t, pt(-3, -1), pt(5, 3), pt(5, 3), pt(7, 4), 1)   // on one line, end at end
	checkMeet(t, pt(-3, -1), pt(5, 3), pt(7, 4), pt(9, 5), 0)   // on one line, apart
	checkMeet(t, pt(2, -1), pt(2, 1), pt(2, 1), pt(2, 3), 1)    // upright, end at end
	checkMeet(t, pt(2, -1), pt(2, 1), pt(2, 2), pt(2, 3), 0)    // upright, apart
}

// TestP6PointAlone: a segment may be one point.
func TestP6PointAlone(t *testing.T) {
	p := pt(1, 1)
	checkMeet(t, p, p, p, p, 1)
	checkMeet(t, p, p, pt(1, 2), pt(1, 2), 0)
	checkMeet(t, p, p, pt(2, 1), pt(2, 1), 0)
	checkMeet(t, p, p, pt(0, 0), pt(2, 2), 1)
	checkMeet(t, p, p, pt(0, 0), pt(1, 1), 1)
	checkMeet(t, p, p, pt(0, 0), pt(0.5, 0.5), 0)
	checkMeet(t, p, p, pt(0, 0), pt(2, 1), 0)
	checkMeet(t, p, p, pt(1, -3), pt(1, 3), 1)
	checkMeet(t, pt(0, minus0()), pt(minus0(), 0), pt(0, 0), pt(0, 0), 1)
}

func TestP6Edges(t *testing.T) {
	h, l, top := high(), low(), highest()
	checkMeet(t, pt(0, 0), pt(2, 0), pt(1, math.Ldexp(1, -50)), pt(1, 5), 0)
	checkMeet(t, pt(0, 0), pt(2, minus0()), pt(1, -math.Ldexp(1, -50)), pt(1, 5), 2)
	checkMeet(t, pt(0, 0), pt(0.3, 3), pt(0.1, 1), pt(5, 5), 0) // 0.1 is above a tenth, 0.3 below three
	checkMeet(t, pt(0, 0), pt(0.3, 3), pt(0.1, 1), pt(-5, 5), 2)
	checkMeet(t, pt(0, 0), pt(0.2, 2), pt(0.1, 1), pt(5, 5), 1)
	checkMeet(t, pt(-h, -h), pt(h, h), pt(l, 0), pt(1, -1), 0)
	checkMeet(t, pt(-h, -h), pt(h, h), pt(l, l), pt(1, -1), 1)
	checkMeet(t, pt(-h, -h), pt(h, h), pt(0, l), pt(1, -1), 2)
	checkMeet(t, pt(-top, -top), pt(top, top), pt(-top, top), pt(top, -top), 2)
	checkMeet(t, pt(-top, -top), pt(top, top), pt(-top, top), pt(-l, l), 0)
	checkMeet(t, pt(-top, -top), pt(0, 0), pt(-top, top), pt(top, -top), 1)
	checkMeet(t, pt(-top, -top), pt(-l, -l), pt(-top, top), pt(top, -top), 0)
	checkMeet(t, pt(-top, -top), pt(0, 0), pt(l, l), pt(top, top), 0)
	checkMeet(t, pt(-top, -top), pt(l, l), pt(l, l), pt(top, top), 1)
	checkMeet(t, pt(0, 0), pt(l, l), pt(l, 0), pt(0, l), 2) // they cross where no coordinate may be
	checkMeet(t, pt(0, 0), pt(l, 0), pt(l, l), pt(0, l), 0)
}

// TestP6SmallGrid: all segments between points with coordinates 0, 1 and 2.
func TestP6SmallGrid(t *testing.T) {
	at := func(k int) api.Point { return pt(float64(k%3), float64(k/3%3)) }
	seen := tally{}
	for k := range 9 * 9 * 9 * 9 {
		l := []api.Point{at(k), at(k / 9), at(k / 81), at(k / 729)}
		want := meetByRats(l...)
		seen[want]++
		checkAnswer(t, meet(), want, l...)
	}
	seen.check(t, 100, 0, 1, 2)
}

// TestP6HairOffAnEnd: one segment ends on the other, then one coordinate is a hair further.
func TestP6HairOffAnEnd(t *testing.T) {
	r := rand.New(rand.NewSource(17))
	seen := tally{}
	for range 3000 {
		x, y, dx, dy := r.Int63n(1<<40), r.Int63n(1<<40), r.Int63n(1<<30)+1, r.Int63n(1<<30)+1
		at := scaled(r.Intn(150) - 100)
		k := r.Int63n(9)
		l := []api.Point{at(x, y), at(x+8*dx, y+8*dy), at(x+k*dx, y+k*dy), at(r.Int63n(1<<40), r.Int63n(1<<40))}
		checkNudged(t, r, meet(), 1, l...)
		seen[meetByRats(l...)]++
	}
	seen.check(t, 100, 0, 1, 2)
}

func TestP6Drawn(t *testing.T) {
	r := rand.New(rand.NewSource(18))
	seen := tally{}
	for range 3000 {
		for _, l := range [][]api.Point{drawPoints(r, 4), drawGrid(r, 4, 5), drawGrid(r, 4, 1<<52)} {
			want := meetByRats(l...)
			seen[want]++
			checkMeet(t, l[0], l[1], l[2], l[3], want)
		}
	}
	seen.check(t, 300, 0, 1, 2)
}
