package plumbline_test

import (
	"math"
	"math/rand"
	"testing"

	"plumbline/api"
	"plumbline/plumbline"
)

// wrongBits: of numbers that may not be.
func wrongBits() []uint64 {
	out := []uint64{
		0x7ff8000000000001, 0xfff8000000000000, 0x7ff0000000000001, 0xfff0000000000001, math.MaxUint64, // no numbers
		0x7ff0000000000000, 0xfff0000000000000, // the infinite ones
	}
	for _, x := range []float64{
		math.Ldexp(1, 100), math.Nextafter(math.Ldexp(1, 100), math.Inf(1)), math.Ldexp(1, 101), math.MaxFloat64,
		math.Ldexp(1, -101), math.Ldexp(3, -101), 1e-40, math.Ldexp(1, -1022), math.SmallestNonzeroFloat64,
		math.Nextafter(low(), 0), math.Nextafter(low(), 1),
		math.Ldexp(1<<52+1, -101), math.Ldexp(1<<53-1, -101), math.Ldexp(1<<52+1, -153),
	} {
		out = append(out, math.Float64bits(x), math.Float64bits(-x))
	}
	return out
}

// rightBits: of numbers that may be.
func rightBits() []uint64 {
	var out []uint64
	for _, x := range []float64{
		0, 1, 0.1, 0.3, 1e30, 1 << 53, 12345.678, high(), highest(), low(), 3 * low(),
		math.Ldexp(1<<52+1, -100), math.Ldexp(1<<53-1, -100), math.Ldexp(1<<53-1, 47),
	} {
		out = append(out, math.Float64bits(x), math.Float64bits(math.Copysign(x, -1)))
	}
	return out
}

func ordinary() [3]api.Point { return [3]api.Point{pt(1, 2), pt(3, 5), pt(8, 13)} }

func checkWrong(t *testing.T, q question, l [3]api.Point) {
	t.Helper()
	if n, e := q.ask(l[0], l[1], l[2]); n != 0 || e != api.ErrNumber {
		t.Errorf("P1: %s(%x, %x, %x) = %d, %d, want 0, ErrNumber", q.name, l[0], l[1], l[2], n, e)
	}
}

func TestP1WrongNumberInEveryPlace(t *testing.T) {
	for _, q := range questions() {
		for _, bits := range wrongBits() {
			all := ordinary()
			for i := range 6 {
				one := ordinary()
				*places(&one)[i] = bits
				checkWrong(t, q, one)
				*places(&all)[i] = bits
				checkWrong(t, q, all)
			}
		}
	}
}

func TestP1WrongNumberWhereTheAnswerIsPlain(t *testing.T) {
	for _, q := range questions() {
		for _, bits := range wrongBits() {
			p := api.Point{X: bits, Y: bits}
			checkWrong(t, q, [3]api.Point{p, p, p})
			checkWrong(t, q, [3]api.Point{pt(0, 0), pt(0, 0), {X: bits}})
			checkWrong(t, q, [3]api.Point{pt(0, 0), {Y: bits}, pt(0, 0)})
		}
	}
}

func TestP1RightNumberInEveryPlace(t *testing.T) {
	for _, q := range questions() {
		for _, bits := range rightBits() {
			for i := range 6 {
				l := ordinary()
				*places(&l)[i] = bits
				checkAnswer(t, q, l, q.want(l[0], l[1], l[2]))
			}
		}
	}
}

// drawBits: any, more of them than chance would have it at the edges of what may be.
func drawBits(r *rand.Rand) uint64 {
	switch r.Intn(4) {
	case 0:
		return r.Uint64()
	case 1:
		return math.Float64bits(math.Ldexp(float64(r.Int63n(1<<53)), r.Intn(8)-104)) + uint64(r.Intn(2))<<63
	case 2:
		return math.Float64bits(math.Ldexp(1, 100)) - 2 + uint64(r.Intn(4))
	default:
		return math.Float64bits(drawCoordinate(r))
	}
}

func TestP1AllBits(t *testing.T) {
	r := rand.New(rand.NewSource(4))
	right := 0
	for range 20000 {
		l := ordinary()
		mayBe := true
		for i, at := range places(&l) {
			if i == 0 || r.Intn(3) == 0 {
				*at = drawBits(r)
				mayBe = mayBe && mayBeByRats(*at)
			}
		}
		for _, q := range questions() {
			if mayBe {
				checkAnswer(t, q, l, q.want(l[0], l[1], l[2]))
				right++
			} else {
				checkWrong(t, q, l)
			}
		}
	}
	if right < 1000 || right > 39000 {
		t.Errorf("%d of the 40000 draws may be: too lopsided to test much", right)
	}
}

func TestP1NoCallPanicsAtAnyList(t *testing.T) {
	r := rand.New(rand.NewSource(5))
	for _, length := range []int{0, 1, 2, 3, 99, 100, 101, 1000} {
		l := make([]api.Point, length)
		for i := range l {
			l[i] = api.Point{X: drawBits(r), Y: drawBits(r)}
		}
		p := [4]api.Point{}
		for i := range p {
			p[i] = api.Point{X: drawBits(r), Y: drawBits(r)}
		}
		plumbline.Inside(l, p[0])
		plumbline.Hull(l)
		plumbline.InCircle(p[0], p[1], p[2], p[3])
		plumbline.Meet(p[0], p[1], p[2], p[3])
	}
	plumbline.Inside(nil, api.Point{})
	plumbline.Hull(nil)
}
