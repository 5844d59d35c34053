package plumbline_test

import (
	"math"
	"math/rand"
	"slices"
	"testing"

	"plumbline/api"
	"plumbline/plumbline"
)

// checkInside asks with each corner as the first, and the other way round: that changes nothing.
func checkInside(t *testing.T, polygon []api.Point, p api.Point, want int) {
	t.Helper()
	for range 2 {
		for range max(len(polygon), 1) {
			checkAnswer(t, inside(len(polygon)), want, append(slices.Clone(polygon), p)...)
			if len(polygon) > 0 {
				polygon = append(slices.Clone(polygon[1:]), polygon[0])
			}
		}
		polygon = slices.Clone(polygon)
		slices.Reverse(polygon)
	}
}

func square() []api.Point { return []api.Point{pt(0, 0), pt(4, 0), pt(4, 4), pt(0, 4)} }

func TestP7Example(t *testing.T) {
	checkInside(t, square(), pt(1, 1), 1)
	checkInside(t, square(), pt(4, 2), 0)
	checkInside(t, square(), pt(5, 0), -1)
	checkInside(t, square(), pt(-1, 0), -1)
}

// TestP7HalfLineThroughCorners: a roof, a valley, a step and a level edge, each at the height of the point.
func TestP7HalfLineThroughCorners(t *testing.T) {
	checkInside(t, square(), pt(-1, 4), -1)
	star := []api.Point{pt(0, 0), pt(9, 0), pt(8, 3), pt(9, 6), pt(6, 3), pt(4, 6), pt(2, 3), pt(0, 6)}
	checkInside(t, star, pt(-1, 3), -1)
	checkInside(t, star, pt(1, 3), 1)
	checkInside(t, star, pt(2, 3), 0)
	checkInside(t, star, pt(3, 3), 1)
	checkInside(t, star, pt(4, 3), 1)
	checkInside(t, star, pt(7, 3), 1)
	checkInside(t, star, pt(8, 3), 0)
	checkInside(t, star, pt(8.5, 3), -1)
	checkInside(t, star, pt(-1, 6), -1)
	checkInside(t, star, pt(-1, 0), -1)
	checkInside(t, star, pt(4, 6), 0)
	stairs := []api.Point{pt(0, 0), pt(6, 0), pt(6, 2), pt(4, 2), pt(4, 4), pt(2, 4), pt(2, 6), pt(0, 6)}
	checkInside(t, stairs, pt(-1, 2), -1)
	checkInside(t, stairs, pt(1, 2), 1)
	checkInside(t, stairs, pt(5, 2), 0)
	checkInside(t, stairs, pt(1, 4), 1)
	checkInside(t, stairs, pt(3, 4), 0)
	checkInside(t, stairs, pt(5, 4), -1)
}

// TestP7EdgesAcrossEachOther: it is the number of edges that counts, not how often the polygon goes round.
func TestP7EdgesAcrossEachOther(t *testing.T) {
	bow := []api.Point{pt(0, 0), pt(4, 4), pt(4, 0), pt(0, 4)}
	checkInside(t, bow, pt(1, 2), 1)
	checkInside(t, bow, pt(3, 2), 1)
	checkInside(t, bow, pt(2, 1), -1)
	checkInside(t, bow, pt(2, 3), -1)
	checkInside(t, bow, pt(2, 2), 0)
	checkInside(t, append(square(), square()...), pt(1, 1), -1)
	checkInside(t, slices.Concat(square(), square(), square()), pt(1, 1), 1)
	checkInside(t, slices.Concat(square(), square()), pt(4, 1), 0)
}

func TestP7FewPoints(t *testing.T) {
	checkInside(t, nil, pt(0, 0), -1)
	checkInside(t, square()[:1], pt(0, minus0()), 0)
	checkInside(t, square()[:1], pt(-1, 0), -1)
	checkInside(t, square()[:1], pt(0, low()), -1)
	checkInside(t, square()[:2], pt(0, 0), 0)
	checkInside(t, square()[:2], pt(3, 0), 0)
	checkInside(t, square()[:2], pt(-1, 0), -1)
	checkInside(t, square()[:2], pt(5, 0), -1)
	checkInside(t, square()[1:3], pt(3, 1), -1) // the edge there and the edge back
	checkInside(t, square()[:3], pt(2, 2), 0)   // on the edge from the last to the first
	checkInside(t, square()[:3], pt(3, 2), 1)
	checkInside(t, square()[:3], pt(1, 2), -1)
	checkInside(t, []api.Point{pt(1, 1), pt(1, 1), pt(1, 1)}, pt(1, 1), 0)
	checkInside(t, []api.Point{pt(1, 1), pt(1, 1), pt(1, 1)}, pt(0, 1), -1)
}

func TestP7Edges(t *testing.T) {
	h, l, top := high(), low(), highest()
	corners := []api.Point{pt(-top, -top), pt(top, -top), pt(top, top), pt(-top, top)}
	checkInside(t, corners, pt(l, minus0()), 1)
	checkInside(t, corners, pt(math.Nextafter(top, 0), math.Nextafter(top, 0)), 1)
	checkInside(t, corners, pt(top, l), 0)
	checkInside(t, corners[:3], pt(l, l), 0)
	checkInside(t, corners[:3], pt(l, 0), 1)
	checkInside(t, corners[:3], pt(0, l), -1)
	small := []api.Point{pt(minus0(), 0), pt(2*l, 0), pt(2*l, 2*l), pt(0, 2*l)}
	checkInside(t, small, pt(l, l), 1)
	checkInside(t, small, pt(0, l), 0)
	checkInside(t, small, pt(-l, l), -1)
	checkInside(t, small, pt(3*l, l), -1)
	checkInside(t, small, pt(-h, l), -1)
	checkInside(t, small, pt(h, l), -1)
	thin := []api.Point{pt(0, 0), pt(0.3, 3), pt(9, 3)}
	checkInside(t, thin, pt(0.1, 1), 1) // 0.1 is above a tenth, 0.3 below three
	checkInside(t, thin, pt(math.Nextafter(0.1, 0), 1), -1)
	checkInside(t, []api.Point{pt(0, 0), pt(0.2, 2), pt(9, 3)}, pt(0.1, 1), 0)
}

// saw: a polygon of so many corners whose teeth stand on the level 0 and reach up to 2.
func saw(corners int) []api.Point {
	l := make([]api.Point, corners)
	for i := range l {
		l[i] = pt(float64(i), float64(2*(i%2)))
	}
	return l
}

func TestP7ManyPoints(t *testing.T) {
	full := saw(api.MaxPoints)
	for x := range 99 {
		for _, p := range []api.Point{pt(float64(x), 1), pt(float64(x)+0.5, 1), pt(float64(x)+0.5, 0.25), pt(float64(x), 2)} {
			checkAnswer(t, inside(len(full)), insideByRats(append(slices.Clone(full), p)...), append(slices.Clone(full), p)...)
		}
	}
	for _, n := range []int{101, 102, 1000, 1 << 20} {
		if got, e := plumbline.Inside(saw(n), pt(0, 0)); got != 0 || e != api.ErrMany {
			t.Errorf("P7: Inside of %d points = %d, %d, want 0, ErrMany", n, got, e)
		}
	}
}

// TestP7TheHundredthPointCounts: the last edges that may be.
func TestP7TheHundredthPointCounts(t *testing.T) {
	l := make([]api.Point, api.MaxPoints)
	l[99] = pt(4, 4)
	checkAnswer(t, inside(100), 0, append(l, pt(2, 2))...)
	l[98] = pt(4, 0)
	checkAnswer(t, inside(100), 1, append(l, pt(3, 1))...)
	checkAnswer(t, inside(100), -1, append(l, pt(1, 3))...)
}

// TestP7SmallGrid: all triangles, and points of the grid and half-way between its lines.
func TestP7SmallGrid(t *testing.T) {
	at := func(k int) api.Point { return pt(float64(k%3), float64(k/3%3)) }
	seen := tally{}
	for k := range 9 * 9 * 9 {
		for j := range 49 {
			p := pt(float64(j%7-1)/2, float64(j/7-1)/2)
			l := []api.Point{at(k), at(k / 9), at(k / 81), p}
			want := insideByRats(l...)
			seen[want]++
			checkAnswer(t, inside(3), want, l...)
		}
	}
	seen.check(t, 100, -1, 0, 1)
}

// TestP7HairOffAnEdge: the point lies on an edge, then one coordinate is a hair further.
func TestP7HairOffAnEdge(t *testing.T) {
	r := rand.New(rand.NewSource(19))
	seen := tally{}
	for range 3000 {
		x, y, dx, dy := r.Int63n(1<<40), r.Int63n(1<<40), r.Int63n(1<<30)-1<<29, r.Int63n(1<<30)-1<<29
		at := scaled(r.Intn(150) - 100)
		l := []api.Point{at(x, y), at(x+8*dx, y+8*dy)}
		for range r.Intn(4) {
			l = append(l, at(r.Int63n(1<<40), r.Int63n(1<<40)))
		}
		k := r.Int63n(9)
		l = append(l, at(x+k*dx, y+k*dy))
		checkNudged(t, r, inside(len(l)-1), 0, l...)
		seen[insideByRats(l...)]++
	}
	seen.check(t, 200, -1, 0, 1)
}

func TestP7Drawn(t *testing.T) {
	r := rand.New(rand.NewSource(20))
	seen := tally{}
	for range 1500 {
		size := r.Intn(9) + 1
		for _, l := range [][]api.Point{drawPoints(r, size), drawGrid(r, size, 6), drawGrid(r, size, 1<<52)} {
			want := insideByRats(l...)
			seen[want]++
			checkInside(t, l[:size-1], l[size-1], want)
		}
	}
	seen.check(t, 300, -1, 0, 1)
}
