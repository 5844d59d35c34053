package plumbline

import (
	"cmp"
	"slices"
)

// hull tells the numbers of the corners: see DOC.md, P8.
func hull(all []spot) []int {
	order := fromLeft(all)
	if len(order) < 2 {
		return order
	}
	lower := leftTurns(all, order)
	slices.Reverse(order)
	upper := leftTurns(all, order)
	// Each chain ends where the other one begins: those two corners are told once.
	return slices.Concat(lower[:len(lower)-1], upper[:len(upper)-1])
}

// fromLeft tells the numbers of the spots from the least X to the greatest, of the same X from the least Y; of those that are one point only the lowest.
func fromLeft(all []spot) []int {
	order := make([]int, len(all))
	for i := range order {
		order[i] = i
	}
	slices.SortFunc(order, func(i, j int) int {
		return cmp.Or(cmp.Compare(all[i].x, all[j].x), cmp.Compare(all[i].y, all[j].y), cmp.Compare(i, j))
	})
	return slices.CompactFunc(order, func(i, j int) bool { return all[i] == all[j] })
}

// leftTurns goes through the spots in that order and leaves out those at which the way would go straight on or turn right: they lie on what is left or left of it, so they are no corners on this side.
func leftTurns(all []spot, order []int) []int {
	var chain []int
	for _, i := range order {
		for len(chain) >= 2 && turn(all[chain[len(chain)-2]], all[chain[len(chain)-1]], all[i]) <= 0 {
			chain = chain[:len(chain)-1]
		}
		chain = append(chain, i)
	}
	return chain
}
