package plumbline_test

import (
	"math"
	"math/big"
	"slices"

	"plumbline/api"
)

// What the calls are held against: the document's words, by fractions of great whole numbers. Meet and Inside go other ways than the program does: they reckon where lines cut each other. So does Hull: it asks each point for a line through it.

func rat(bits uint64) *big.Rat {
	return new(big.Rat).SetFloat64(math.Float64frombits(bits))
}

func plus(p, q *big.Rat) *big.Rat { return new(big.Rat).Add(p, q) }

func minus(p, q *big.Rat) *big.Rat { return new(big.Rat).Sub(p, q) }

func times(p, q *big.Rat) *big.Rat { return new(big.Rat).Mul(p, q) }

// mayBeByRats: what a coordinate may be.
func mayBeByRats(bits uint64) bool {
	x := rat(bits)
	if x == nil {
		return false
	}
	bound := new(big.Rat).SetFloat64(math.Ldexp(1, 100))
	return new(big.Rat).Abs(x).Cmp(bound) < 0 && times(x, bound).IsInt()
}

// ratWay: how far it is from p to q.
type ratWay struct {
	x, y *big.Rat
}

func wayByRats(p, q api.Point) ratWay {
	return ratWay{minus(rat(q.X), rat(p.X)), minus(rat(q.Y), rat(p.Y))}
}

func crossByRats(v, w ratWay) *big.Rat { return minus(times(v.x, w.y), times(v.y, w.x)) }

func dotByRats(v, w ratWay) *big.Rat { return plus(times(v.x, w.x), times(v.y, w.y)) }

func orientByRats(l ...api.Point) int {
	return crossByRats(wayByRats(l[0], l[1]), wayByRats(l[0], l[2])).Sign()
}

func nearerByRats(l ...api.Point) int {
	toB, toC := wayByRats(l[0], l[1]), wayByRats(l[0], l[2])
	return dotByRats(toC, toC).Cmp(dotByRats(toB, toB))
}

func inCircleByRats(l ...api.Point) int {
	u, v, w := wayByRats(l[3], l[0]), wayByRats(l[3], l[1]), wayByRats(l[3], l[2])
	sum := times(dotByRats(u, u), crossByRats(v, w))
	sum = plus(sum, times(dotByRats(v, v), crossByRats(w, u)))
	return plus(sum, times(dotByRats(w, w), crossByRats(u, v))).Sign()
}

// partOfWay tells whether 0 <= x <= 1.
func partOfWay(x *big.Rat) bool {
	return x.Sign() >= 0 && x.Cmp(big.NewRat(1, 1)) <= 0
}

// liesByRats goes from a towards b as far as p is, and looks whether it stands on p.
func liesByRats(p, a, b api.Point) bool {
	ab, ap := wayByRats(a, b), wayByRats(a, p)
	far := new(big.Rat)
	if dotByRats(ab, ab).Sign() > 0 {
		far.Quo(dotByRats(ap, ab), dotByRats(ab, ab))
	}
	return partOfWay(far) && times(far, ab.x).Cmp(ap.x) == 0 && times(far, ab.y).Cmp(ap.y) == 0
}

// commonByRats tells whether two segments have a point in common: for lines that cut each other, how far along both that is.
func commonByRats(a, b, c, d api.Point) bool {
	ab, cd, ac := wayByRats(a, b), wayByRats(c, d), wayByRats(a, c)
	det := crossByRats(ab, cd)
	if det.Sign() == 0 {
		return liesByRats(a, c, d) || liesByRats(b, c, d) || liesByRats(c, a, b) || liesByRats(d, a, b)
	}
	onAB := new(big.Rat).Quo(crossByRats(ac, cd), det)
	onCD := new(big.Rat).Quo(crossByRats(ac, ab), det)
	return partOfWay(onAB) && partOfWay(onCD)
}

func meetByRats(l ...api.Point) int {
	a, b, c, d := l[0], l[1], l[2], l[3]
	switch {
	case !commonByRats(a, b, c, d):
		return 0
	case orientByRats(a, b, c)*orientByRats(a, b, d) == -1 && orientByRats(c, d, a)*orientByRats(c, d, b) == -1:
		return 2
	}
	return 1
}

// crossesByRats reckons the X at which the edge reaches p's height.
func crossesByRats(u, v, p api.Point) bool {
	uAbove, vAbove := rat(u.Y).Cmp(rat(p.Y)) > 0, rat(v.Y).Cmp(rat(p.Y)) > 0
	if uAbove == vAbove {
		return false
	}
	uv := wayByRats(u, v)
	far := new(big.Rat).Quo(wayByRats(u, p).y, uv.y)
	return plus(rat(u.X), times(far, uv.x)).Cmp(rat(p.X)) > 0
}

// insideByRats: the last point is the one that is asked about, the others are the polygon.
func insideByRats(l ...api.Point) int {
	polygon, p := l[:len(l)-1], l[len(l)-1]
	answer := -1
	for i, u := range polygon {
		v := polygon[(i+1)%len(polygon)]
		if liesByRats(p, u, v) {
			return 0
		}
		if crossesByRats(u, v, p) {
			answer = -answer
		}
	}
	return answer
}

func samePoint(p, q api.Point) bool {
	return rat(p.X).Cmp(rat(q.X)) == 0 && rat(p.Y).Cmp(rat(q.Y)) == 0
}

// firstOf: the lowest number of a point of l.
func firstOf(l []api.Point, p api.Point) int {
	return slices.IndexFunc(l, func(q api.Point) bool { return samePoint(p, q) })
}

// mostToTheRight tells whether all points of l but p lie, as seen from p, where q does or less than half a turn to the left of it.
func mostToTheRight(l []api.Point, p, q api.Point) bool {
	toQ := wayByRats(p, q)
	for _, s := range l {
		if samePoint(s, p) {
			continue
		}
		to := wayByRats(p, s)
		side := crossByRats(toQ, to).Sign()
		if side < 0 || side == 0 && dotByRats(toQ, to).Sign() <= 0 {
			return false
		}
	}
	return true
}

// isCorner: a line through p with all others on one side, and none on it, is there just if they lie within less than half a turn, as seen from p.
func isCorner(l []api.Point, p api.Point) bool {
	alone := true
	for _, q := range l {
		if samePoint(p, q) {
			continue
		}
		alone = false
		if mostToTheRight(l, p, q) {
			return true
		}
	}
	return alone
}

// leftOf tells whether p has the lesser X, or the same X and the lesser Y.
func leftOf(p, q api.Point) bool {
	if x := rat(p.X).Cmp(rat(q.X)); x != 0 {
		return x < 0
	}
	return rat(p.Y).Cmp(rat(q.Y)) < 0
}

// hullByRats goes from the first corner on to the one that has all others on its left.
func hullByRats(l []api.Point) []int {
	var corners []int
	for i, p := range l {
		if firstOf(l, p) == i && isCorner(l, p) {
			corners = append(corners, i)
		}
	}
	if len(corners) == 0 {
		return nil
	}
	first := corners[0]
	for _, i := range corners {
		if leftOf(l[i], l[first]) {
			first = i
		}
	}
	out := []int{first}
	for len(out) < len(corners) {
		from := l[out[len(out)-1]]
		next := slices.IndexFunc(corners, func(i int) bool {
			return !samePoint(from, l[i]) && mostToTheRight(l, from, l[i])
		})
		out = append(out, corners[next])
	}
	return out
}
