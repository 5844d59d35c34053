package plumbline_test

import (
	"math"
	"math/rand"
	"testing"

	"plumbline/api"
)

// checkNearer asks both ways round.
func checkNearer(t *testing.T, a, b, c api.Point, want int) {
	t.Helper()
	checkAnswer(t, nearer(), want, a, b, c)
	checkAnswer(t, nearer(), -want, a, c, b)
}

func TestP4Ordinary(t *testing.T) {
	checkNearer(t, pt(0, 0), pt(1, 0), pt(2, 0), 1)
	checkNearer(t, pt(0, 0), pt(0, -1), pt(1, 1), 1)
	checkNearer(t, pt(10, 10), pt(9, 12), pt(0, 0), 1)
	checkNearer(t, pt(10, 10), pt(10, 10), pt(10, 11), 1)
	checkNearer(t, pt(10, 10), pt(10, 10), pt(10, 10), 0)
	checkNearer(t, pt(0, 0), pt(3, 4), pt(-5, 0), 0)
	checkNearer(t, pt(1, 2), pt(4, 6), pt(5, -1), 0)
}

func TestP4Edges(t *testing.T) {
	h, l, top := high(), low(), highest()
	checkNearer(t, pt(0, minus0()), pt(minus0(), 0), pt(0, 0), 0)
	checkNearer(t, pt(0, 0), pt(minus0(), 0), pt(0, l), 1)
	checkNearer(t, pt(0, 0), pt(h, 0), pt(h, l), 1)
	checkNearer(t, pt(0, 0), pt(h, l), pt(-l, h), 0)
	checkNearer(t, pt(-h, -h), pt(h, h), pt(h, math.Nextafter(h, 0)), -1)
	checkNearer(t, pt(l, 0), pt(h, 0), pt(-h, 0), 1)
	checkNearer(t, pt(0, 0), pt(top, -top), pt(-top, top), 0)
	checkNearer(t, pt(l, 0), pt(top, -top), pt(-top, top), 1)
	checkNearer(t, pt(-top, -top), pt(top, top), pt(top, math.Nextafter(top, 0)), -1)
	checkNearer(t, pt(0, 0), pt(3, 4), pt(5+math.Ldexp(1, -50), 0), 1)
	checkNearer(t, pt(0, 0), pt(3, 4), pt(5-math.Ldexp(1, -50), 0), -1)
	checkNearer(t, pt(0.1, 0.1), pt(0.2, 0.1), pt(0.1, 0.2), 0)
	checkNearer(t, pt(0.2, 0), pt(0.1, 0), pt(0.3, 0), -1) // 0.3 is a hair below three tenths, the two others are above theirs
}

// drawCircle: points just as far from the first one, which stands for their centre.
func drawCircle(r *rand.Rand, round int) []api.Point {
	x, y, dx, dy := r.Int63n(1<<50), r.Int63n(1<<50), r.Int63n(1<<50), r.Int63n(1<<50)
	at := scaled(r.Intn(149) - 100)
	l := []api.Point{at(x, y)}
	for range round {
		a, b := dx, dy
		if r.Intn(2) == 0 {
			a, b = dy, dx
		}
		l = append(l, at(x+a*(2*r.Int63n(2)-1), y+b*(2*r.Int63n(2)-1)))
	}
	return l
}

// TestP4JustAsFar: points just as far away, then one coordinate of them a hair further.
func TestP4JustAsFar(t *testing.T) {
	r := rand.New(rand.NewSource(11))
	notAlike := 0
	for range 3000 {
		if checkNudged(t, r, nearer(), 0, drawCircle(r, 2)...) {
			notAlike++
		}
	}
	if notAlike < 1000 {
		t.Errorf("only %d draws are not just as far", notAlike)
	}
}

func TestP4Drawn(t *testing.T) {
	r := rand.New(rand.NewSource(12))
	for range 10000 {
		l := drawPoints(r, 3)
		checkNearer(t, l[0], l[1], l[2], nearerByRats(l...))
	}
}
