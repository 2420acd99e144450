package view

import (
	"iter"
	"slices"

	"rickyard/api"
	"rickyard/cell"
)

// ordered is the cells of lists that count, in order; of those that stand beside one another the
// first one.
func ordered(lists [][]api.Cell, counts func(c api.Cell) bool) []api.Cell {
	var l []api.Cell
	for _, list := range lists {
		for _, c := range list {
			if counts(c) {
				l = append(l, c)
			}
		}
	}
	// Stable, so that the first one of several that stand beside one another stays the first one.
	slices.SortStableFunc(l, cell.Cmp)
	return slices.CompactFunc(l, func(a, b api.Cell) bool { return cell.Cmp(a, b) == 0 })
}

// groups goes through l, which is in order, with all cells of a row and a column at a time: no
// cell hides one of another group.
func groups(l []api.Cell) iter.Seq[[]api.Cell] {
	return func(yield func([]api.Cell) bool) {
		left := l
		for len(left) > 0 {
			first := left[0]
			n := slices.IndexFunc(left, func(c api.Cell) bool {
				return c.Row != first.Row || c.Col != first.Col
			})
			if n < 0 {
				n = len(left)
			}
			if !yield(left[:n]) {
				return
			}
			left = left[n:]
		}
	}
}

// readable goes through those cells of l, which is in order, that are not gone, and not hidden.
func readable(l []api.Cell) iter.Seq[api.Cell] {
	return func(yield func(api.Cell) bool) {
		for group := range groups(l) {
			for _, c := range group {
				if !c.Del && !Hidden(c, group) && !yield(c) {
					return
				}
			}
		}
	}
}
