package exact_test

import (
	"math"
	"math/big"
	"math/rand"
	"slices"
	"testing"

	"plumbline/exact"
)

// whole: the number itself, by great numbers.
func whole(n []float64) *big.Rat {
	sum := new(big.Rat)
	for _, part := range n {
		sum.Add(sum, new(big.Rat).SetFloat64(part))
	}
	return sum
}

// checkParts holds n against what its type says of it.
func checkParts(t *testing.T, n exact.Number) {
	t.Helper()
	for i, part := range n {
		if part == 0 {
			t.Errorf("a part of %g is 0", n)
		}
		before := new(big.Rat)
		for _, x := range n[:i] {
			before.Add(before, new(big.Rat).SetFloat64(math.Abs(x)))
		}
		if before.Cmp(new(big.Rat).SetFloat64(math.Abs(part))) >= 0 {
			t.Errorf("part %d of %g does not outweigh those before it", i, n)
		}
	}
}

func check(t *testing.T, got exact.Number, want *big.Rat) {
	t.Helper()
	checkParts(t, got)
	if whole(got).Cmp(want) != 0 {
		t.Errorf("%g is %s, want %s", got, whole(got), want)
	}
	if got.Sign() != want.Sign() {
		t.Errorf("the sign of %g is %d, want %d", got, got.Sign(), want.Sign())
	}
}

// draw: a float64 with few or many binary places, some of them far from others.
func draw(r *rand.Rand) float64 {
	switch r.Intn(4) {
	case 0:
		return float64(r.Intn(5) - 2)
	case 1:
		return math.Ldexp(float64(r.Intn(3)-1), r.Intn(200)-100)
	default:
		return math.Ldexp(float64(r.Int63n(1<<53)-1<<52), r.Intn(140)-100)
	}
}

func drawMany(r *rand.Rand, most int) []float64 {
	out := make([]float64, r.Intn(most+1))
	for i := range out {
		out[i] = draw(r)
		if i > 0 && r.Intn(3) == 0 {
			out[i] = -out[r.Intn(i)] // takes an earlier part away again
		}
	}
	return out
}

func TestSumOfNone(t *testing.T) {
	check(t, exact.Sum(), new(big.Rat))
	check(t, exact.Total(), new(big.Rat))
	check(t, exact.Total(nil, exact.Sum(), nil), new(big.Rat))
	check(t, exact.Product(nil, exact.Sum(1)), new(big.Rat))
	check(t, exact.Sum(0, math.Copysign(0, -1)), new(big.Rat))
}

func TestSumIsNotRounded(t *testing.T) {
	high, low := math.Ldexp(1, 99), math.Ldexp(1, -100)
	check(t, exact.Sum(high, low, -high), big.NewRat(1, 1).SetFloat64(low))
	check(t, exact.Sum(low, high, -low, -high), new(big.Rat))
	check(t, exact.Sum(high, 1, low, -1, -high, -low), new(big.Rat))
	check(t, exact.Sum(0.1, 0.2, -0.3), whole([]float64{0.1, 0.2, -0.3}))
}

func TestDrawnSums(t *testing.T) {
	r := rand.New(rand.NewSource(2))
	for range 3000 {
		parts := drawMany(r, 12)
		kept := slices.Clone(parts)
		check(t, exact.Sum(parts...), whole(parts))
		if !slices.Equal(parts, kept) {
			t.Fatalf("Sum wrote into its parts: %g, they were %g", parts, kept)
		}
	}
}

func TestDrawnProducts(t *testing.T) {
	r := rand.New(rand.NewSource(3))
	for range 3000 {
		m, n := exact.Sum(drawMany(r, 4)...), exact.Sum(drawMany(r, 4)...)
		keptM, keptN := slices.Clone(m), slices.Clone(n)
		a, b := whole(m), whole(n)
		check(t, exact.Product(m, n), new(big.Rat).Mul(a, b))
		check(t, exact.Square(m), new(big.Rat).Mul(a, a))
		check(t, m.Negative(), new(big.Rat).Neg(a))
		check(t, exact.Total(m, n, m), new(big.Rat).Add(a, new(big.Rat).Add(a, b)))
		check(t, exact.Total(m, m.Negative()), new(big.Rat))
		if !slices.Equal(m, keptM) || !slices.Equal(n, keptN) {
			t.Fatalf("numbers were written into: %g, %g, they were %g, %g", m, n, keptM, keptN)
		}
	}
}

// TestFourFactors: the greatest and the least that any product of four coordinates' differences comes to.
func TestFourFactors(t *testing.T) {
	greatest := math.Nextafter(math.Ldexp(1, 100), 0)
	least := math.Ldexp(1, -100)
	for _, n := range []exact.Number{exact.Sum(greatest, greatest), exact.Sum(least), exact.Sum(greatest, least)} {
		a := whole(n)
		a.Mul(a, a)
		check(t, exact.Square(exact.Square(n)), a.Mul(a, a))
	}
}

func TestSign(t *testing.T) {
	type count int
	for want, x := range map[int]int{-1: -7, 0: 0, 1: 3} {
		if got := exact.Sign(x); got != want {
			t.Errorf("Sign(%d) = %d, want %d", x, got, want)
		}
		if got := exact.Sign(count(x)); got != want {
			t.Errorf("Sign(count(%d)) = %d, want %d", x, got, want)
		}
		if got := exact.Sign(float64(x) * 5e-324); got != want {
			t.Errorf("Sign(%g) = %d, want %d", float64(x)*5e-324, got, want)
		}
	}
	if got := exact.Sign(math.Copysign(0, -1)); got != 0 {
		t.Errorf("Sign(-0) = %d, want 0", got)
	}
}

func checkLeastAndGreatest[T exact.Real](t *testing.T, l ...T) {
	t.Helper()
	least, greatest := exact.Least(l[0], l[1:]...), exact.Greatest(l[0], l[1:]...)
	if least != slices.Min(l) || greatest != slices.Max(l) {
		t.Errorf("of %v the least is %v, the greatest %v", l, least, greatest)
	}
}

func TestLeastAndGreatest(t *testing.T) {
	type count int
	checkLeastAndGreatest(t, 4)
	checkLeastAndGreatest(t, -1, 1)
	checkLeastAndGreatest(t, 1, -1)
	checkLeastAndGreatest(t, 3, -9, 7, 0)
	checkLeastAndGreatest(t, math.MaxInt, math.MinInt, 0)
	checkLeastAndGreatest(t, count(2), 5, 1, 2)
	checkLeastAndGreatest(t, 0.5)
	checkLeastAndGreatest(t, 0.5, -0.25, 3)
	checkLeastAndGreatest(t, 5e-324, 0, -5e-324)
	checkLeastAndGreatest(t, 1, math.Nextafter(1, 2), math.Nextafter(1, 0))
}
