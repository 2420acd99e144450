package cut

import (
	"iter"
	"slices"
	"sort"

	"rickyard/api"
)

// Borders tells whether each of l may be a row, and stands above the one ahead of it.
func Borders(l []string) bool {
	for i, border := range l {
		if len(border) < 1 || len(border) > api.MaxName {
			return false
		}
		if i > 0 && border <= l[i-1] {
			return false
		}
	}
	return true
}

// Place is how many of borders are at most row.
func Place(borders []string, row string) int {
	// What is asked is a number, also of borders that do not rise; a search asks that they do.
	return search(slices.Sorted(slices.Values(borders)), row)
}

// search is Place of borders that are sorted.
func search(borders []string, row string) int {
	return sort.Search(len(borders), func(i int) bool { return borders[i] > row })
}

// rows goes through l, that rises: each row, and its cells.
func rows(l []api.Cell) iter.Seq2[string, []api.Cell] {
	return func(yield func(string, []api.Cell) bool) {
		left := l
		for len(left) > 0 {
			row := left[0].Row
			n := sort.Search(len(left), func(i int) bool { return left[i].Row > row })
			if !yield(row, left[:n]) {
				return
			}
			left = left[n:]
		}
	}
}
