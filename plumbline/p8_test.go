package plumbline_test

import (
	"math"
	"math/rand"
	"slices"
	"testing"

	"plumbline/api"
	"plumbline/plumbline"
)

func checkHull(t *testing.T, l []api.Point, want ...int) {
	t.Helper()
	if got, e := plumbline.Hull(l); !slices.Equal(got, want) || e != api.OK {
		t.Errorf("P8: Hull(%x) = %v, %d, want %v", l, got, e, want)
	}
}

func TestP8Example(t *testing.T) {
	checkHull(t, []api.Point{pt(0, 0), pt(2, 0), pt(1, 0), pt(2, 2), pt(0, 2), pt(1, 1), pt(0, 0)}, 0, 1, 3, 4)
	checkHull(t, []api.Point{pt(7, -3), pt(7, -3), pt(7, -3)}, 0)
	checkHull(t, []api.Point{pt(0, 0), pt(1, 1), pt(2, 2)}, 0, 2)
	checkHull(t, nil)
	checkHull(t, []api.Point{})
}

func TestP8FewPoints(t *testing.T) {
	checkHull(t, []api.Point{pt(3, 4)}, 0)
	checkHull(t, []api.Point{pt(minus0(), minus0())}, 0)
	checkHull(t, []api.Point{pt(0, 0), pt(1, 0)}, 0, 1)
	checkHull(t, []api.Point{pt(1, 0), pt(0, 0)}, 1, 0)
	checkHull(t, []api.Point{pt(0, 1), pt(0, 0)}, 1, 0)
	checkHull(t, []api.Point{pt(0, 1), pt(1, 0)}, 0, 1)
	checkHull(t, []api.Point{pt(1, 0), pt(0, 1)}, 1, 0)
	checkHull(t, []api.Point{pt(0, 0), pt(1, 0), pt(0, 1)}, 0, 1, 2)
	checkHull(t, []api.Point{pt(0, 0), pt(0, 1), pt(1, 0)}, 0, 2, 1)
	checkHull(t, []api.Point{pt(1, 0), pt(0, 0), pt(0, 1)}, 1, 0, 2)
}

// TestP8OneLine: level, upright, rising and falling, with points of it told twice.
func TestP8OneLine(t *testing.T) {
	checkHull(t, []api.Point{pt(2, 0), pt(3, 0), pt(0, 0), pt(1, 0), pt(3, 0)}, 2, 1)
	checkHull(t, []api.Point{pt(0, 5), pt(0, 1), pt(0, 3), pt(0, 1)}, 1, 0)
	checkHull(t, []api.Point{pt(1, 1), pt(2, 2), pt(1, 1), pt(0, 0), pt(2, 2)}, 3, 1)
	checkHull(t, []api.Point{pt(1, 3), pt(0, 6), pt(2, 0), pt(2, 0)}, 1, 2)
}

// TestP8FirstCorner: the least X, and of several of these the least Y, wherever it stands in the list.
func TestP8FirstCorner(t *testing.T) {
	checkHull(t, []api.Point{pt(4, 4), pt(0, 4), pt(0, 0), pt(4, 0)}, 2, 3, 0, 1)
	checkHull(t, []api.Point{pt(0, 4), pt(0, 2), pt(0, -3), pt(5, -9)}, 2, 3, 0)
	checkHull(t, []api.Point{pt(1, -5), pt(-1, 7), pt(1, 8)}, 1, 0, 2)
	checkHull(t, []api.Point{pt(0, 4), pt(minus0(), 0), pt(5, 0)}, 1, 2, 0)
	checkHull(t, []api.Point{pt(minus0(), 4), pt(0, 0), pt(5, 0)}, 1, 2, 0)
}

// TestP8OnePointToldTwice: at every corner, within an edge and within all, the first of those that are one point is told.
func TestP8OnePointToldTwice(t *testing.T) {
	twice := slices.Concat(square(), square(), []api.Point{pt(2, 0), pt(1, 1), pt(2, 0), pt(1, 1)})
	checkHull(t, twice, 0, 1, 2, 3)
	slices.Reverse(twice)
	checkHull(t, twice, 7, 6, 5, 4)
	checkHull(t, slices.Repeat(square(), 25), 0, 1, 2, 3)
	checkHull(t, []api.Point{pt(9, 9), pt(0, minus0()), pt(minus0(), 0), pt(9, 0), pt(0, 0), pt(9, minus0())}, 1, 3, 0)
}

func TestP8PointsOnEdgesAreNoCorners(t *testing.T) {
	var grid []api.Point
	for k := range 25 {
		grid = append(grid, pt(float64(k%5), float64(k/5)))
	}
	checkHull(t, grid, 0, 4, 24, 20)
	slanted := []api.Point{pt(0, 0), pt(6, 3), pt(3, 9), pt(2, 1), pt(4, 2), pt(5, 5), pt(4, 7), pt(1, 3), pt(2, 6), pt(3, 4)}
	checkHull(t, slanted, 0, 1, 2)
}

func TestP8Edges(t *testing.T) {
	h, l, top := high(), low(), highest()
	checkHull(t, []api.Point{pt(top, top), pt(-top, top), pt(l, l), pt(-top, -top), pt(0, 0), pt(top, -top)}, 3, 5, 0, 1)
	checkHull(t, []api.Point{pt(-h, -h), pt(h, h), pt(l, 0), pt(0, l), pt(l, l)}, 0, 2, 1, 3)
	checkHull(t, []api.Point{pt(-top, -top), pt(0, 0), pt(top, top), pt(l, l)}, 0, 2)
	checkHull(t, []api.Point{pt(-top, -top), pt(0, l), pt(top, top)}, 0, 2, 1)
	checkHull(t, []api.Point{pt(-top, -top), pt(0, -l), pt(top, top)}, 0, 1, 2)
	checkHull(t, []api.Point{pt(l, 0), pt(0, 0), pt(0, l), pt(l, l)}, 1, 0, 3, 2)
	checkHull(t, []api.Point{pt(0.1, 1), pt(0.3, 3), pt(0, 0), pt(5, 5)}, 2, 3, 1) // 0.1 is above a tenth, 0.3 below three
	checkHull(t, []api.Point{pt(0.1, 1), pt(0.3, 3), pt(0, 0), pt(-5, 5)}, 3, 2, 0, 1)
	checkHull(t, []api.Point{pt(0.1, 1), pt(0.2, 2), pt(0, 0), pt(-5, 5)}, 3, 2, 1)
	checkHull(t, []api.Point{pt(0.5+math.Ldexp(1, -53), 0.5), pt(12, 12), pt(24, 24)}, 0, 2, 1)
	checkHull(t, []api.Point{pt(0.5, 0.5), pt(12, 12), pt(24, 24)}, 0, 2)
}

// bowl: so many points, each a corner, in their order; they lie on a parabola.
func bowl(size int) []api.Point {
	l := make([]api.Point, size)
	for i := range l {
		x := float64(i - size/2)
		l[i] = pt(x, x*x)
	}
	return l
}

// upTo: the numbers below n.
func upTo(n int) []int {
	out := make([]int, n)
	for i := range out {
		out[i] = i
	}
	return out
}

func TestP8ManyPoints(t *testing.T) {
	for _, n := range []int{2, 3, 50, 99, 100} {
		checkHull(t, bowl(n), upTo(n)...)
	}
	checkHull(t, make([]api.Point, 100), 0)
	for _, n := range []int{101, 102, 1000, 1 << 20} {
		for _, l := range [][]api.Point{bowl(n), make([]api.Point, n)} {
			if got, e := plumbline.Hull(l); got != nil || e != api.ErrMany {
				t.Errorf("P8: Hull of %d points = %v, %d, want nil, ErrMany", n, got, e)
			}
		}
	}
}

// TestP8TheHundredthPointCounts: the last one that may be.
func TestP8TheHundredthPointCounts(t *testing.T) {
	l := make([]api.Point, api.MaxPoints)
	l[99] = pt(1, 0)
	checkHull(t, l, 0, 99)
	l[98] = pt(-1, 7)
	checkHull(t, l, 98, 0, 99)
	l[99] = pt(-1, 6)
	checkHull(t, l, 99, 0, 98)
}

// TestP8AnyOrder: the same points are the corners, in whatever order the list has them.
func TestP8AnyOrder(t *testing.T) {
	r := rand.New(rand.NewSource(22))
	for range 300 {
		n := r.Intn(api.MaxPoints) + 1
		order := r.Perm(n)
		l, want := make([]api.Point, n), make([]int, n)
		for i, p := range bowl(n) {
			l[order[i]], want[i] = p, order[i]
		}
		checkHull(t, l, want...)
	}
}

// TestP8SmallGrid: all lists of four points of a grid.
func TestP8SmallGrid(t *testing.T) {
	at := func(k int) api.Point { return pt(float64(k%3), float64(k/3%3)) }
	seen := tally{}
	for k := range 9 * 9 * 9 * 9 {
		l := []api.Point{at(k), at(k / 9), at(k / 81), at(k / 729)}
		want := hullByRats(l)
		seen[len(want)]++
		checkHull(t, l, want...)
	}
	seen.check(t, 9, 1)
	seen.check(t, 100, 2, 3, 4)
}

// TestP8HairOffAnEdge: points of one edge, then one coordinate is a hair further.
func TestP8HairOffAnEdge(t *testing.T) {
	r := rand.New(rand.NewSource(23))
	changed := 0
	for range 1000 {
		x, y, dx, dy := r.Int63n(1<<40), r.Int63n(1<<40), r.Int63n(1<<30)+1, r.Int63n(1<<30)-1<<29
		at := scaled(r.Intn(150) - 100)
		l := []api.Point{at(x, y), at(x+dx, y+dy), at(x+3*dx, y+3*dy), at(x+7*dx, y+7*dy)}
		known := asOne(0, 3)
		if r.Intn(2) == 0 {
			l = append(l, at(x+3*dx, y+1<<40))
			known = asOne(0, 3, 4)
		}
		if checkNudged(t, r, hull(len(l)), known, l...) {
			changed++
		}
	}
	if changed < 200 {
		t.Errorf("only %d answers were changed by a hair", changed)
	}
}

func TestP8Drawn(t *testing.T) {
	r := rand.New(rand.NewSource(24))
	seen := tally{}
	for range 300 {
		size := r.Intn(12) + 1
		for _, l := range [][]api.Point{drawPoints(r, size), drawGrid(r, size, 2), drawGrid(r, size, 8), drawGrid(r, size, 1<<52)} {
			want := hullByRats(l)
			seen[len(want)]++
			checkHull(t, l, want...)
		}
	}
	seen.check(t, 30, 1, 2, 3, 4, 5, 6)
}

// TestP8DrawnMany: lists of up to as many points as may be.
func TestP8DrawnMany(t *testing.T) {
	r := rand.New(rand.NewSource(25))
	for range 4 {
		for _, most := range []int64{9, 1 << 10, 1 << 52} {
			l := drawGrid(r, api.MaxPoints-r.Intn(20), most)
			checkHull(t, l, hullByRats(l)...)
		}
	}
}
