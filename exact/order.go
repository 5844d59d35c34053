package exact

// Real: the types whose values have a sign and an order.
type Real interface {
	~int | ~float64
}

// Sign of x: 1, 0 or -1.
func Sign[T Real](x T) int {
	switch {
	case x > 0:
		return 1
	case x < 0:
		return -1
	}
	return 0
}

// Least of one or more: the first stands apart, as there is no least of none.
func Least[T Real](first T, others ...T) T {
	least := first
	for _, x := range others {
		if x < least {
			least = x
		}
	}
	return least
}

// Greatest of one or more.
func Greatest[T Real](first T, others ...T) T {
	greatest := first
	for _, x := range others {
		if x > greatest {
			greatest = x
		}
	}
	return greatest
}
