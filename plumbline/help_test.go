package plumbline_test

import (
	"math"
	"math/big"
	"math/rand"
	"testing"

	"plumbline/api"
	"plumbline/plumbline"
)

// question: a call that asks about three points.
type question struct {
	name string
	ask  func(a, b, c api.Point) (int, api.Errno)
	want func(a, b, c api.Point) int
}

func questions() []question {
	return []question{
		{"Orient", plumbline.Orient, orientByRats},
		{"Nearer", plumbline.Nearer, nearerByRats},
	}
}

func pt(x, y float64) api.Point {
	return api.Point{X: math.Float64bits(x), Y: math.Float64bits(y)}
}

func high() float64    { return math.Ldexp(1, 99) }
func low() float64     { return math.Ldexp(1, -100) }
func highest() float64 { return math.Nextafter(math.Ldexp(1, 100), 0) }

// places: where the six coordinates of three points lie.
func places(l *[3]api.Point) [6]*uint64 {
	return [6]*uint64{&l[0].X, &l[0].Y, &l[1].X, &l[1].Y, &l[2].X, &l[2].Y}
}

func rat(bits uint64) *big.Rat {
	return new(big.Rat).SetFloat64(math.Float64frombits(bits))
}

func minus(p, q uint64) *big.Rat { return new(big.Rat).Sub(rat(p), rat(q)) }

func times(p, q *big.Rat) *big.Rat { return new(big.Rat).Mul(p, q) }

// mayBeByRats: what a coordinate may be, by the document's words.
func mayBeByRats(bits uint64) bool {
	x := rat(bits)
	if x == nil {
		return false
	}
	bound := new(big.Rat).SetFloat64(math.Ldexp(1, 100))
	return new(big.Rat).Abs(x).Cmp(bound) < 0 && times(x, bound).IsInt()
}

func orientByRats(a, b, c api.Point) int {
	left := times(minus(b.X, a.X), minus(c.Y, a.Y))
	right := times(minus(b.Y, a.Y), minus(c.X, a.X))
	return left.Cmp(right)
}

func distanceByRats(p, q api.Point) *big.Rat {
	x, y := minus(q.X, p.X), minus(q.Y, p.Y)
	return new(big.Rat).Add(times(x, x), times(y, y))
}

func nearerByRats(a, b, c api.Point) int {
	return distanceByRats(a, c).Cmp(distanceByRats(a, b))
}

// drawCoordinate: one that may be: small and whole, of one binary place, or with many of them anywhere in bounds.
func drawCoordinate(r *rand.Rand) float64 {
	switch r.Intn(5) {
	case 0:
		return float64(r.Intn(7) - 3)
	case 1:
		return math.Copysign(0, float64(r.Intn(2))-0.5)
	case 2:
		return math.Ldexp(float64(2*r.Intn(2)-1), r.Intn(200)-100)
	case 3:
		return math.Copysign(highest(), float64(r.Intn(2))-0.5)
	default:
		return math.Ldexp(float64(r.Int63n(1<<53)-1<<52), r.Intn(148)-100)
	}
}

func drawPoint(r *rand.Rand) api.Point { return pt(drawCoordinate(r), drawCoordinate(r)) }

// drawPoints: three that may be, with coordinates in common more often than chance would have it.
func drawPoints(r *rand.Rand) [3]api.Point {
	l := [3]api.Point{drawPoint(r), drawPoint(r), drawPoint(r)}
	at := places(&l)
	for range r.Intn(4) {
		*at[r.Intn(6)] = *at[r.Intn(6)]
	}
	return l
}

// nudge moves one coordinate by the least that its bits have room for, where what comes out may be.
func nudge(r *rand.Rand, l [3]api.Point) [3]api.Point {
	at := places(&l)[r.Intn(6)]
	to := *at + 1
	if r.Intn(2) == 0 {
		to = *at - 1
	}
	if mayBeByRats(to) {
		*at = to
	}
	return l
}

func checkAnswer(t *testing.T, q question, l [3]api.Point, want int) {
	t.Helper()
	if n, e := q.ask(l[0], l[1], l[2]); n != want || e != api.OK {
		t.Errorf("%s(%x, %x, %x) = %d, %d, want %d", q.name, l[0], l[1], l[2], n, e, want)
	}
}

// checkNudged asks about points whose answer is 0, then about them with one coordinate a hair further; it tells whether that answer is another.
func checkNudged(t *testing.T, r *rand.Rand, q question, l [3]api.Point) bool {
	t.Helper()
	checkAnswer(t, q, l, 0)
	l = nudge(r, l)
	want := q.want(l[0], l[1], l[2])
	checkAnswer(t, q, l, want)
	return want != 0
}
