package cut_test

import (
	"math"
	"slices"
	"testing"

	"rickyard/api"
	"rickyard/cell"
	"rickyard/cut"
)

// dice are numbers that are the same at each run.
type dice struct{ state uint64 }

func (d *dice) upTo(n int) int {
	d.state = d.state*6364136223846793005 + 1442695040888963407
	return int(d.state >> 33 % uint64(n))
}

// name is one of few, that begin alike.
func (d *dice) name() string {
	letters := []string{"\x00", "a", "b", "\xff"}
	name := letters[d.upTo(len(letters))]
	for range d.upTo(3) {
		name += letters[d.upTo(len(letters))]
	}
	return name
}

// cells rise, and are of so few rows that most have some of them.
func (d *dice) cells(n int) list {
	var l list
	for range n {
		l = append(l, api.Cell{
			Row: d.name(),
			Col: d.name(),
			Ts:  uint64(d.upTo(3)),
			Seq: uint64(d.upTo(3)),
			Del: d.upTo(4) == 0,
			Val: d.name(),
		})
	}
	slices.SortFunc(l, cell.Cmp)
	return slices.CompactFunc(l, func(a, b api.Cell) bool { return cell.Cmp(a, b) == 0 })
}

func (d *dice) borders(n int) []string {
	var l []string
	for range n {
		l = append(l, d.name())
	}
	slices.Sort(l)
	return slices.Compact(l)
}

func slowPlace(borders []string, row string) int {
	n := 0
	for _, border := range borders {
		if border <= row {
			n++
		}
	}
	return n
}

// slowSplit is P10.2's words: for each place the cells that have it.
func slowSplit(l list, borders []string) lists {
	split := make(lists, len(borders)+1)
	for i := range split {
		for _, c := range l {
			if slowPlace(borders, c.Row) == i {
				split[i] = append(split[i], c)
			}
		}
	}
	return split
}

// slowRoll is P10.3's words: of all ends that part no row the last one that is not too far, or the
// first one.
func slowRoll(l list, most int) lists {
	var rolled lists
	for len(l) > 0 {
		best := 0
		for end := 1; end <= len(l); end++ {
			parted := end < len(l) && l[end-1].Row == l[end].Row
			if !parted && (best == 0 || end <= most) {
				best = end
			}
		}
		rolled, l = append(rolled, l[:best]), l[best:]
	}
	return rolled
}

func slowAll(l list, borders []string, most int) []cut.Piece {
	var pieces []cut.Piece
	for tablet, part := range slowSplit(l, borders) {
		for _, cells := range slowRoll(part, most) {
			pieces = append(pieces, cut.Piece{Tablet: tablet, Cells: cells})
		}
	}
	return pieces
}

// P10.1
func TestPlacesAgainstTheirWords(t *testing.T) {
	d := &dice{2}
	for range 3000 {
		borders := d.borders(d.upTo(20))
		if !cut.Borders(borders) {
			t.Errorf("Borders(%q) = false", borders)
		}
		if d.upTo(2) == 0 {
			borders = append(borders, d.name(), d.name())
		}
		row := d.name()
		if n := cut.Place(borders, row); n != slowPlace(borders, row) {
			t.Errorf("Place(%q, %q) = %d; want %d", borders, row, n, slowPlace(borders, row))
		}
	}
}

// P10.2, P10.3, P10.4
func TestCutsAgainstTheirWords(t *testing.T) {
	d := &dice{3}
	for range 300 {
		l, borders := d.cells(d.upTo(200)), d.borders(d.upTo(20))
		splitIs(t, l, borders, slowSplit(l, borders)...)
		for _, most := range []int{1, 2, 3, 1 + d.upTo(200), max(len(l), 1), math.MaxInt} {
			rollIs(t, l, most, slowRoll(l, most)...)
			allIs(t, l, borders, most, slowAll(l, borders, most)...)
		}
	}
}

// P10.2, P10.3, P10.4: as many cells and borders as the document's bounds tell.
func TestCutsOfManyCells(t *testing.T) {
	var l list
	var borders []string
	for i := range 300 {
		row := string([]byte{'a' + byte(i/26), 'a' + byte(i%26)})
		l = append(l, api.Cell{Row: row, Col: "c"})
		borders = append(borders, row)
	}
	splitIs(t, l, borders, slowSplit(l, borders)...)
	rollIs(t, l, 7, slowRoll(l, 7)...)
	allIs(t, l, borders, 7, slowAll(l, borders, 7)...)
	allIs(t, l, borders[100:110], 7, slowAll(l, borders[100:110], 7)...)
}

// P10.5: all pieces, one behind the other, are the cells; none has rows of two tablets, no row is in
// two pieces, and none is empty.
func TestPiecesHaveWholeRows(t *testing.T) {
	d := &dice{5}
	for range 300 {
		l, borders, most := d.cells(d.upTo(200)), d.borders(d.upTo(12)), 1+d.upTo(60)
		pieces, e := cut.All(l, borders, most)
		if e != api.OK {
			t.Fatalf("All(%v, %q, %d): %d", l, borders, most, e)
		}
		var all list
		whose := map[string]int{}
		for i, piece := range pieces {
			all = append(all, piece.Cells...)
			if len(piece.Cells) == 0 {
				t.Errorf("piece %d has no cells", i)
			}
			for _, c := range piece.Cells {
				if n := slowPlace(borders, c.Row); n != piece.Tablet {
					t.Errorf("row %q is of tablet %d, but in a piece of %d", c.Row, n, piece.Tablet)
				}
				if first, ok := whose[c.Row]; ok && first != i {
					t.Errorf("row %q is in the pieces %d and %d", c.Row, first, i)
				}
				whose[c.Row] = i
			}
		}
		if !slices.Equal(all, l) {
			t.Errorf("All(%v, %q, %d) has other cells: %v", l, borders, most, all)
		}
	}
}

// What is handed in is not changed.
func TestArgumentsAreKept(t *testing.T) {
	d := &dice{7}
	l := d.cells(100)
	borders := []string{"b", "\xff", "a"}
	keptCells, keptBorders := slices.Clone(l), slices.Clone(borders)
	cut.Borders(borders)
	cut.Place(borders, "a")
	cut.Split(l, borders)
	cut.All(l, borders, 3)
	if !slices.Equal(borders, keptBorders) {
		t.Errorf("the borders were changed: %q", borders)
	}

	slices.Sort(borders)
	cut.Split(l, borders)
	cut.Roll(l, 3)
	cut.All(l, borders, 3)
	if !slices.Equal(l, keptCells) {
		t.Errorf("the cells were changed: %v", l)
	}
}

// spoil writes over the first of l, and behind its end; the others have to stay as they are.
func spoil(t *testing.T, l lists) {
	t.Helper()
	for i := range l {
		var kept lists
		for _, other := range l {
			kept = append(kept, slices.Clone(other))
		}
		_ = append(l[i], make(list, 99)...)
		clear(l[i])
		for j := range l {
			if j != i && !slices.Equal(l[j], kept[j]) {
				t.Errorf("list %d changed with list %d: %v", j, i, l[j])
			}
		}
	}
}

// Writing over an answer, or behind its end, changes neither what was handed in, nor another list of
// the answer.
func TestAnswersAreNew(t *testing.T) {
	l := of("a a b b b c d m n n o z")
	kept := slices.Clone(l)
	for _, borders := range [][]string{nil, {"c"}, {"b", "n"}, {"0"}} {
		for _, most := range []int{1, 2, 5, 99} {
			split, _ := cut.Split(l, borders)
			spoil(t, split)
			rolled, _ := cut.Roll(l, most)
			spoil(t, rolled)
			pieces, _ := cut.All(l, borders, most)
			var cells lists
			for _, piece := range pieces {
				cells = append(cells, piece.Cells)
			}
			spoil(t, cells)
			if !slices.Equal(l, kept) {
				t.Fatalf("the cells changed with the answer: %v", l)
			}
		}
	}
}
