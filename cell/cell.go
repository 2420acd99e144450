// Package cell is layer 1: cells, their order, and their bytes. See shared/doc/01-cell.md.
package cell

import (
	"cmp"

	"rickyard/api"
)

// names are a cell's Row and Col, in the order in which all its bytes have them.
type names [2]string

// coordinate is what two versions of one cell have in common.
type coordinate struct {
	names names
	ts    uint64
}

func namesOf(c api.Cell) names {
	return names{c.Row, c.Col}
}

func coordinateOf(c api.Cell) coordinate {
	return coordinate{names: namesOf(c), ts: c.Ts}
}

// May tells whether c is within the limits, and has no value if it is gone.
func May(c api.Cell) bool {
	for _, name := range namesOf(c) {
		if len(name) < 1 || len(name) > api.MaxName {
			return false
		}
	}
	return len(c.Val) <= api.MaxValue && (!c.Del || c.Val == "")
}

// Cmp is -1, 0 or 1, as a stands ahead of b, beside it, or behind it.
func Cmp(a, b api.Cell) int {
	return cmp.Or(
		cmp.Compare(a.Row, b.Row),
		cmp.Compare(a.Col, b.Col),
		// Turned round: the newest version is met first.
		cmp.Compare(b.Ts, a.Ts),
		cmp.Compare(b.Seq, a.Seq),
	)
}

// Same tells whether a and b have one coordinate.
func Same(a, b api.Cell) bool {
	return coordinateOf(a) == coordinateOf(b)
}

// Rising tells whether each of l stands ahead of the next one.
func Rising(l []api.Cell) bool {
	for i := 1; i < len(l); i++ {
		if Cmp(l[i-1], l[i]) >= 0 {
			return false
		}
	}
	return true
}
