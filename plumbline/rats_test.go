package plumbline_test

import (
	"math"
	"math/big"

	"plumbline/api"
)

// What the calls are held against: the document's words, by fractions of great whole numbers. Meet and Inside go other ways than the program does: they reckon where lines cut each other.

func rat(bits uint64) *big.Rat {
	return new(big.Rat).SetFloat64(math.Float64frombits(bits))
}

func plus(p, q *big.Rat) *big.Rat { return new(big.Rat).Add(p, q) }

func minus(p, q *big.Rat) *big.Rat { return new(big.Rat).Sub(p, q) }

func times(p, q *big.Rat) *big.Rat { return new(big.Rat).Mul(p, q) }

// mayBeByRats: what a coordinate may be.
func mayBeByRats(bits uint64) bool {
	x := rat(bits)
	if x == nil {
		return false
	}
	bound := new(big.Rat).SetFloat64(math.Ldexp(1, 100))
	return new(big.Rat).Abs(x).Cmp(bound) < 0 && times(x, bound).IsInt()
}

// ratWay: how far it is from p to q.
type ratWay struct {
	x, y *big.Rat
}

func wayByRats(p, q api.Point) ratWay {
	return ratWay{minus(rat(q.X), rat(p.X)), minus(rat(q.Y), rat(p.Y))}
}

func crossByRats(v, w ratWay) *big.Rat { return minus(times(v.x, w.y), times(v.y, w.x)) }

func dotByRats(v, w ratWay) *big.Rat { return plus(times(v.x, w.x), times(v.y, w.y)) }

func orientByRats(l ...api.Point) int {
	return crossByRats(wayByRats(l[0], l[1]), wayByRats(l[0], l[2])).Sign()
}

func nearerByRats(l ...api.Point) int {
	toB, toC := wayByRats(l[0], l[1]), wayByRats(l[0], l[2])
	return dotByRats(toC, toC).Cmp(dotByRats(toB, toB))
}

func inCircleByRats(l ...api.Point) int {
	u, v, w := wayByRats(l[3], l[0]), wayByRats(l[3], l[1]), wayByRats(l[3], l[2])
	sum := times(dotByRats(u, u), crossByRats(v, w))
	sum = plus(sum, times(dotByRats(v, v), crossByRats(w, u)))
	return plus(sum, times(dotByRats(w, w), crossByRats(u, v))).Sign()
}

// partOfWay tells whether 0 <= x <= 1.
func partOfWay(x *big.Rat) bool {
	return x.Sign() >= 0 && x.Cmp(big.NewRat(1, 1)) <= 0
}

// liesByRats goes from a towards b as far as p is, and looks whether it stands on p.
func liesByRats(p, a, b api.Point) bool {
	ab, ap := wayByRats(a, b), wayByRats(a, p)
	far := new(big.Rat)
	if dotByRats(ab, ab).Sign() > 0 {
		far.Quo(dotByRats(ap, ab), dotByRats(ab, ab))
	}
	return partOfWay(far) && times(far, ab.x).Cmp(ap.x) == 0 && times(far, ab.y).Cmp(ap.y) == 0
}

// commonByRats tells whether two segments have a point in common: for lines that cut each other, how far along both that is.
func commonByRats(a, b, c, d api.Point) bool {
	ab, cd, ac := wayByRats(a, b), wayByRats(c, d), wayByRats(a, c)
	det := crossByRats(ab, cd)
	if det.Sign() == 0 {
		return liesByRats(a, c, d) || liesByRats(b, c, d) || liesByRats(c, a, b) || liesByRats(d, a, b)
	}
	onAB := new(big.Rat).Quo(crossByRats(ac, cd), det)
	onCD := new(big.Rat).Quo(crossByRats(ac, ab), det)
	return partOfWay(onAB) && partOfWay(onCD)
}

func meetByRats(l ...api.Point) int {
	a, b, c, d := l[0], l[1], l[2], l[3]
	switch {
	case !commonByRats(a, b, c, d):
		return 0
	case orientByRats(a, b, c)*orientByRats(a, b, d) == -1 && orientByRats(c, d, a)*orientByRats(c, d, b) == -1:
		return 2
	}
	return 1
}

// crossesByRats reckons the X at which the edge reaches p's height.
func crossesByRats(u, v, p api.Point) bool {
	uAbove, vAbove := rat(u.Y).Cmp(rat(p.Y)) > 0, rat(v.Y).Cmp(rat(p.Y)) > 0
	if uAbove == vAbove {
		return false
	}
	uv := wayByRats(u, v)
	far := new(big.Rat).Quo(wayByRats(u, p).y, uv.y)
	return plus(rat(u.X), times(far, uv.x)).Cmp(rat(p.X)) > 0
}

// insideByRats: the last point is the one that is asked about, the others are the polygon.
func insideByRats(l ...api.Point) int {
	polygon, p := l[:len(l)-1], l[len(l)-1]
	answer := -1
	for i, u := range polygon {
		v := polygon[(i+1)%len(polygon)]
		if liesByRats(p, u, v) {
			return 0
		}
		if crossesByRats(u, v, p) {
			answer = -answer
		}
	}
	return answer
}
