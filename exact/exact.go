// Package exact reckons with numbers that are not rounded: each is kept as several float64 that together are just that number.
//
// It holds as long as float64 has room: nothing that is reckoned reaches 2^1023, and all of it is a multiple of 2^-1074. Products of up to four coordinates stay far within.
package exact

import "math"

// Number: the parts whose sum the number is; none for 0.
//
// They stand from the least to the greatest in size, none of them is 0, and each is greater than all before it together: so the last one has the sign of the whole.
type Number []float64

// Sum adds float64.
func Sum(parts ...float64) Number {
	sum := make(Number, 0, len(parts))
	for _, part := range parts {
		sum = grow(sum, part)
	}
	return sum
}

// Total adds numbers.
func Total(terms ...Number) Number {
	var parts []float64
	for _, term := range terms {
		parts = append(parts, term...)
	}
	return Sum(parts...)
}

// Product multiplies two numbers.
func Product(m, n Number) Number {
	parts := make([]float64, 0, 2*len(m)*len(n))
	for _, x := range m {
		for _, y := range n {
			high, low := twoProduct(x, y)
			parts = append(parts, low, high)
		}
	}
	return Sum(parts...)
}

// Square multiplies a number by itself.
func Square(n Number) Number {
	return Product(n, n)
}

// Negative is 0 less the number.
func (n Number) Negative() Number {
	out := make(Number, len(n))
	for i, part := range n {
		out[i] = -part
	}
	return out
}

// Sign of the number: 1, 0 or -1.
func (n Number) Sign() int {
	if len(n) == 0 {
		return 0
	}
	return Sign(n[len(n)-1])
}

// grow adds x to n, in n's own memory: a part is read before its place is written.
func grow(n Number, x float64) Number {
	out := n[:0]
	for _, part := range n {
		high, low := twoSum(x, part)
		if low != 0 {
			out = append(out, low)
		}
		x = high
	}
	if x != 0 {
		out = append(out, x)
	}
	return out
}

// twoSum is x + y as the rounded sum and what the rounding took away. It asks nothing of which one is greater.
func twoSum(x, y float64) (high, low float64) {
	high = x + y
	fromY := high - x
	fromX := high - fromY
	return high, (x - fromX) + (y - fromY)
}

// twoProduct is x * y as the rounded product and what the rounding took away.
func twoProduct(x, y float64) (high, low float64) {
	high = float64(x * y) // the conversion keeps the compiler from joining the product with a later sum
	return high, math.FMA(x, y, -high)
}
