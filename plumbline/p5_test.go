package plumbline_test

import (
	"math"
	"math/rand"
	"testing"

	"plumbline/api"
)

// checkInCircle asks in all orders of the four: the answer keeps its value where an even number of pairs change places, and changes its sign else.
func checkInCircle(t *testing.T, a, b, c, d api.Point, want int) {
	t.Helper()
	l := [4]api.Point{a, b, c, d}
	for i := range 4 {
		for j := range 4 {
			for k := range 4 {
				if i == j || i == k || j == k {
					continue
				}
				checkAnswer(t, inCircle(), want*parity(i, j, k, 6-i-j-k), l[i], l[j], l[k], l[6-i-j-k])
			}
		}
	}
}

// parity of an order: 1, if an even number of pairs stand the wrong way round, else -1.
func parity(order ...int) int {
	sign := 1
	for i, x := range order {
		for _, y := range order[i+1:] {
			if y < x {
				sign = -sign
			}
		}
	}
	return sign
}

func TestP5Example(t *testing.T) {
	a, b, c := pt(1, 0), pt(0, 1), pt(-1, 0)
	checkInCircle(t, a, b, c, pt(0, -1), 0)
	checkInCircle(t, a, b, c, pt(0, 0), 1)
	checkInCircle(t, a, b, c, pt(0, -1-math.Ldexp(1, -52)), -1)
}

func TestP5Ordinary(t *testing.T) {
	checkInCircle(t, pt(0, 0), pt(4, 0), pt(0, 3), pt(4, 3), 0)
	checkInCircle(t, pt(0, 0), pt(4, 0), pt(0, 3), pt(2, 1), 1)
	checkInCircle(t, pt(0, 0), pt(4, 0), pt(0, 3), pt(2, -1), 0)
	checkInCircle(t, pt(0, 0), pt(4, 0), pt(0, 3), pt(2, -2), -1)
	checkInCircle(t, pt(0, 3), pt(4, 0), pt(0, 0), pt(2, 1), -1) // they turn right
	checkInCircle(t, pt(107, 56), pt(93, 156), pt(51, 138), pt(51, 74), 1)
}

// TestP5Plain: where the three points have no circle, the sum is what it is.
func TestP5Plain(t *testing.T) {
	a, b := pt(2, 3), pt(-7, 5)
	checkInCircle(t, a, a, a, a, 0)
	checkInCircle(t, a, a, a, b, 0)
	checkInCircle(t, a, a, b, b, 0)
	checkInCircle(t, a, a, b, pt(100, 1), 0)
	checkInCircle(t, pt(0, 0), pt(1, 1), pt(2, 2), pt(3, 3), 0)
	checkInCircle(t, pt(0, 0), pt(1, 1), pt(2, 2), pt(3, 2), -1)
	checkInCircle(t, pt(0, 0), pt(1, 1), pt(2, 2), pt(2, 3), 1)
}

func TestP5Edges(t *testing.T) {
	h, l, top := high(), low(), highest()
	checkInCircle(t, pt(minus0(), 0), pt(1, minus0()), pt(0, 1), pt(1, 1), 0)
	checkInCircle(t, pt(h, 0), pt(0, h), pt(-h, 0), pt(0, -h), 0)
	checkInCircle(t, pt(h, 0), pt(0, h), pt(-h, 0), pt(l, -h), -1)
	checkInCircle(t, pt(h, l), pt(0, h), pt(-h, l), pt(0, -h), 1)
	checkInCircle(t, pt(l, 0), pt(0, l), pt(-l, 0), pt(0, -l), 0)
	checkInCircle(t, pt(l, 0), pt(0, l), pt(-l, 0), pt(0, 0), 1)
	checkInCircle(t, pt(l, 0), pt(0, l), pt(-l, 0), pt(l, l), -1)
	checkInCircle(t, pt(l, 0), pt(0, l), pt(-l, 0), pt(top, top), -1)
	checkInCircle(t, pt(top, top), pt(-top, top), pt(-top, -top), pt(top, -top), 0)
	checkInCircle(t, pt(top, top), pt(-top, top), pt(-top, -top), pt(math.Nextafter(top, 0), -top), 1)
	checkInCircle(t, pt(math.Nextafter(top, 0), top), pt(-top, top), pt(-top, -top), pt(top, -top), -1)
	checkInCircle(t, pt(top, top), pt(-top, top), pt(-top, -top), pt(l, l), 1)
	checkInCircle(t, pt(1, 0), pt(0, 1), pt(-1, 0), pt(0.6, 0.8), -1) // 0.8 is above eight tenths by more than 0.6 is below six
}

// TestP5HairOffACircle: points on a circle, then one coordinate of them a hair further.
func TestP5HairOffACircle(t *testing.T) {
	r := rand.New(rand.NewSource(15))
	offCircle := 0
	for range 3000 {
		if checkNudged(t, r, inCircle(), 0, drawCircle(r, 4)[1:]...) {
			offCircle++
		}
	}
	if offCircle < 1000 {
		t.Errorf("only %d draws lie off the circle", offCircle)
	}
}

func TestP5Drawn(t *testing.T) {
	r := rand.New(rand.NewSource(16))
	seen := tally{}
	for range 1000 {
		for _, l := range [][]api.Point{drawPoints(r, 4), drawGrid(r, 4, 3)} {
			want := inCircleByRats(l...)
			seen[want]++
			checkInCircle(t, l[0], l[1], l[2], l[3], want)
		}
	}
	seen.check(t, 100, -1, 0, 1)
}
