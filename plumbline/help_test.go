package plumbline_test

import (
	"math"
	"math/rand"
	"testing"

	"plumbline/api"
	"plumbline/plumbline"
)

// question: a call that asks about some points.
type question struct {
	name string
	size int // how many points
	ask  func(l ...api.Point) (int, api.Errno)
	want func(l ...api.Point) int
}

func orient() question {
	ask := func(l ...api.Point) (int, api.Errno) { return plumbline.Orient(l[0], l[1], l[2]) }
	return question{"P3: Orient", 3, ask, orientByRats}
}

func nearer() question {
	ask := func(l ...api.Point) (int, api.Errno) { return plumbline.Nearer(l[0], l[1], l[2]) }
	return question{"P4: Nearer", 3, ask, nearerByRats}
}

func inCircle() question {
	ask := func(l ...api.Point) (int, api.Errno) { return plumbline.InCircle(l[0], l[1], l[2], l[3]) }
	return question{"P5: InCircle", 4, ask, inCircleByRats}
}

func meet() question {
	ask := func(l ...api.Point) (int, api.Errno) { return plumbline.Meet(l[0], l[1], l[2], l[3]) }
	return question{"P6: Meet", 4, ask, meetByRats}
}

// inside asks about a polygon of so many corners, and the last point behind them.
func inside(corners int) question {
	ask := func(l ...api.Point) (int, api.Errno) { return plumbline.Inside(l[:len(l)-1], l[len(l)-1]) }
	return question{"P7: Inside", corners + 1, ask, insideByRats}
}

// hull asks about so many points; the list that comes out is told as one number.
func hull(size int) question {
	ask := func(l ...api.Point) (int, api.Errno) {
		corners, e := plumbline.Hull(l)
		if e != api.OK && corners != nil {
			return -1, e // no list has this number
		}
		return asOne(corners...), e
	}
	want := func(l ...api.Point) int { return asOne(hullByRats(l)...) }
	return question{"P8: Hull", size, ask, want}
}

// asOne: a number that no other list of up to nine small numbers has; 0 for none.
func asOne(list ...int) int {
	one := 0
	for _, n := range list {
		one = 101*one + n + 1
	}
	return one
}

func questions() []question {
	return []question{
		orient(), nearer(), inCircle(), meet(),
		inside(0), inside(1), inside(2), inside(5),
		hull(1), hull(2), hull(3), hull(6),
	}
}

func pt(x, y float64) api.Point {
	return api.Point{X: math.Float64bits(x), Y: math.Float64bits(y)}
}

// scaled makes points of whole numbers, times 2 to the scale.
func scaled(scale int) func(x, y int64) api.Point {
	return func(x, y int64) api.Point {
		return pt(math.Ldexp(float64(x), scale), math.Ldexp(float64(y), scale))
	}
}

func high() float64    { return math.Ldexp(1, 99) }
func low() float64     { return math.Ldexp(1, -100) }
func highest() float64 { return math.Nextafter(math.Ldexp(1, 100), 0) }
func minus0() float64  { return math.Copysign(0, -1) }

// places: where the coordinates of points lie.
func places(l []api.Point) []*uint64 {
	var out []*uint64
	for i := range l {
		out = append(out, &l[i].X, &l[i].Y)
	}
	return out
}

// drawCoordinate: one that may be: small and whole, of one binary place, or with many of them anywhere in bounds.
func drawCoordinate(r *rand.Rand) float64 {
	switch r.Intn(5) {
	case 0:
		return float64(r.Intn(7) - 3)
	case 1:
		return math.Copysign(0, float64(r.Intn(2))-0.5)
	case 2:
		return math.Ldexp(float64(2*r.Intn(2)-1), r.Intn(200)-100)
	case 3:
		return math.Copysign(highest(), float64(r.Intn(2))-0.5)
	default:
		return math.Ldexp(float64(r.Int63n(1<<53)-1<<52), r.Intn(148)-100)
	}
}

func drawPoint(r *rand.Rand) api.Point { return pt(drawCoordinate(r), drawCoordinate(r)) }

// drawPoints: some that may be, with coordinates in common more often than chance would have it.
func drawPoints(r *rand.Rand, size int) []api.Point {
	l := make([]api.Point, size)
	for i := range l {
		l[i] = drawPoint(r)
	}
	at := places(l)
	for range r.Intn(size + 1) {
		*at[r.Intn(len(at))] = *at[r.Intn(len(at))]
	}
	return l
}

// drawGrid: points with whole coordinates from 0 to most, at a scale that is the same for all.
func drawGrid(r *rand.Rand, size int, most int64) []api.Point {
	at := scaled(r.Intn(140) - 100)
	l := make([]api.Point, size)
	for i := range l {
		l[i] = at(r.Int63n(most+1), r.Int63n(most+1))
	}
	return l
}

// nudge moves one coordinate by the least that its bits have room for, where what comes out may be.
func nudge(r *rand.Rand, l []api.Point) {
	at := places(l)[r.Intn(2*len(l))]
	to := *at + 1
	if r.Intn(2) == 0 {
		to = *at - 1
	}
	if mayBeByRats(to) {
		*at = to
	}
}

func checkAnswer(t *testing.T, q question, want int, l ...api.Point) {
	t.Helper()
	if n, e := q.ask(l...); n != want || e != api.OK {
		t.Errorf("%s%x = %d, %d, want %d", q.name, l, n, e, want)
	}
}

func checkWrong(t *testing.T, q question, want api.Errno, l ...api.Point) {
	t.Helper()
	if n, e := q.ask(l...); n != 0 || e != want {
		t.Errorf("P1: %s%x = %d, %d, want 0, %d", q.name, l, n, e, want)
	}
}

// checkNudged asks about points whose answer is known, then about them with one coordinate a hair further; it tells whether that answer is another.
func checkNudged(t *testing.T, r *rand.Rand, q question, known int, l ...api.Point) bool {
	t.Helper()
	checkAnswer(t, q, known, l...)
	nudge(r, l)
	want := q.want(l...)
	checkAnswer(t, q, want, l...)
	return want != known
}

// tally counts what was drawn, so that a test does not pass because it drew too little of a kind.
type tally map[int]int

func (c tally) check(t *testing.T, least int, answers ...int) {
	t.Helper()
	for _, n := range answers {
		if c[n] < least {
			t.Errorf("only %d draws have the answer %d", c[n], n)
		}
	}
}
