package plumbline_test

import (
	"math"
	"math/rand"
	"testing"

	"plumbline/api"
	"plumbline/plumbline"
)

// wrongBits: of numbers that may not be.
func wrongBits() []uint64 {
	out := []uint64{
		0x7ff8000000000001, 0xfff8000000000000, 0x7ff0000000000001, 0xfff0000000000001, math.MaxUint64, // no numbers
		0x7ff0000000000000, 0xfff0000000000000, // the infinite ones
	}
	for _, x := range []float64{
		math.Ldexp(1, 100), math.Nextafter(math.Ldexp(1, 100), math.Inf(1)), math.Ldexp(1, 101), math.MaxFloat64,
		math.Ldexp(1, -101), math.Ldexp(3, -101), 1e-40, math.Ldexp(1, -1022), math.SmallestNonzeroFloat64,
		math.Nextafter(low(), 0), math.Nextafter(low(), 1),
		math.Ldexp(1<<52+1, -101), math.Ldexp(1<<53-1, -101), math.Ldexp(1<<52+1, -153),
	} {
		out = append(out, math.Float64bits(x), math.Float64bits(-x))
	}
	return out
}

// rightBits: of numbers that may be.
func rightBits() []uint64 {
	var out []uint64
	for _, x := range []float64{
		0, 1, 0.1, 0.3, 1e30, 1 << 53, 12345.678, high(), highest(), low(), 3 * low(),
		math.Ldexp(1<<52+1, -100), math.Ldexp(1<<53-1, -100), math.Ldexp(1<<53-1, 47),
	} {
		out = append(out, math.Float64bits(x), math.Float64bits(math.Copysign(x, -1)))
	}
	return out
}

// ordinary: points that none could take offence at.
func ordinary(size int) []api.Point {
	return []api.Point{pt(1, 2), pt(3, 5), pt(8, 13), pt(0, 1), pt(-4, 7), pt(2, 2)}[:size]
}

func TestP1WrongNumberInEveryPlace(t *testing.T) {
	for _, q := range questions() {
		for _, bits := range wrongBits() {
			all := ordinary(q.size)
			for i := range 2 * q.size {
				one := ordinary(q.size)
				*places(one)[i] = bits
				checkWrong(t, q, api.ErrNumber, one...)
				*places(all)[i] = bits
				checkWrong(t, q, api.ErrNumber, all...)
			}
		}
	}
}

// TestP1WrongNumberWhereTheAnswerIsPlain: a wrong number is looked for even where the other points, or its other coordinate, would settle the answer.
func TestP1WrongNumberWhereTheAnswerIsPlain(t *testing.T) {
	for _, q := range questions() {
		for _, bits := range wrongBits() {
			all := make([]api.Point, q.size)
			for i := range 2 * q.size {
				one := make([]api.Point, q.size)
				*places(one)[i] = bits
				checkWrong(t, q, api.ErrNumber, one...)
				*places(all)[i] = bits
			}
			checkWrong(t, q, api.ErrNumber, all...)
		}
	}
}

func TestP1RightNumberInEveryPlace(t *testing.T) {
	for _, q := range questions() {
		for _, bits := range rightBits() {
			for i := range 2 * q.size {
				l := ordinary(q.size)
				*places(l)[i] = bits
				checkAnswer(t, q, q.want(l...), l...)
			}
		}
	}
}

// drawBits: any, more of them than chance would have it at the edges of what may be.
func drawBits(r *rand.Rand) uint64 {
	switch r.Intn(4) {
	case 0:
		return r.Uint64()
	case 1:
		return math.Float64bits(math.Ldexp(float64(r.Int63n(1<<53)), r.Intn(8)-104)) + uint64(r.Intn(2))<<63
	case 2:
		return math.Float64bits(math.Ldexp(1, 100)) - 2 + uint64(r.Intn(4))
	default:
		return math.Float64bits(drawCoordinate(r))
	}
}

func TestP1AllBits(t *testing.T) {
	r := rand.New(rand.NewSource(4))
	for _, q := range questions() {
		seen := tally{}
		for range 5000 {
			l := ordinary(q.size)
			mayBe := true
			for i, at := range places(l) {
				if i == 0 || r.Intn(3) == 0 {
					*at = drawBits(r)
					mayBe = mayBe && mayBeByRats(*at)
				}
			}
			if mayBe {
				seen[int(api.OK)]++
				checkAnswer(t, q, q.want(l...), l...)
			} else {
				seen[int(api.ErrNumber)]++
				checkWrong(t, q, api.ErrNumber, l...)
			}
		}
		seen.check(t, 200, int(api.OK), int(api.ErrNumber))
	}
}

func TestP1NoCallPanicsAtAnyList(t *testing.T) {
	r := rand.New(rand.NewSource(5))
	for _, length := range []int{0, 1, 2, 3, 99, 100, 101, 1000} {
		l := make([]api.Point, length)
		for _, at := range places(l) {
			*at = drawBits(r)
		}
		plumbline.Inside(l, api.Point{X: drawBits(r), Y: drawBits(r)})
		plumbline.Hull(l)
	}
	plumbline.Inside(nil, api.Point{})
	plumbline.Hull(nil)
}

// checkManyOrNumber: of so many points, with the bits of a wrong number in one of the places.
func checkManyOrNumber(t *testing.T, q question, many bool, bits uint64, at ...int) {
	t.Helper()
	want := api.ErrNumber
	if many {
		want = api.ErrMany
	}
	for _, i := range at {
		l := make([]api.Point, q.size)
		*places(l)[i] = bits
		checkWrong(t, q, want, l...)
	}
}

// TestP1ManyComesAheadOfNumber: P7 and P8 name ErrMany, so ErrNumber stands behind it.
func TestP1ManyComesAheadOfNumber(t *testing.T) {
	for _, bits := range wrongBits() {
		for _, length := range []int{api.MaxPoints - 1, api.MaxPoints, api.MaxPoints + 1, 2 * api.MaxPoints} {
			many := length > api.MaxPoints
			checkManyOrNumber(t, inside(length), many, bits, 0, 1, length, 2*length-1, 2*length, 2*length+1)
			checkManyOrNumber(t, hull(length), many, bits, 0, 1, length, 2*length-2, 2*length-1)
		}
	}
}
