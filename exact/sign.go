package exact

// Signed: the types whose values have a sign.
type Signed interface {
	~int | ~float64
}

// Sign of x: 1, 0 or -1.
func Sign[T Signed](x T) int {
	switch {
	case x > 0:
		return 1
	case x < 0:
		return -1
	}
	return 0
}
