package merge_test

import (
	"math"
	"slices"
	"testing"

	"rickyard/api"
	"rickyard/cell"
	"rickyard/merge"
	"rickyard/runs"
)

// dice are numbers that are the same at each run.
type dice struct{ state uint64 }

func (d *dice) upTo(n int) int {
	d.state = d.state*6364136223846793005 + 1442695040888963407
	return int(d.state >> 33 % uint64(n))
}

// cell is of few coordinates, so that many come twice; val tells it from the others.
func (d *dice) cell(val int) api.Cell {
	names := []string{"a", "aa", "ab", "b", "\x00", "\xff"}
	return api.Cell{
		Row: names[d.upTo(len(names))],
		Col: names[d.upTo(2)],
		Ts:  uint64(d.upTo(3)),
		Seq: uint64(d.upTo(3)),
		Del: d.upTo(4) == 0,
		Val: string(rune(val)),
	}
}

func (d *dice) cells(n int) []api.Cell {
	var l []api.Cell
	for i := range n {
		l = append(l, d.cell(i))
	}
	return l
}

// sorted are lists with places that come in any order, and twice; some lists are empty.
func (d *dice) sorted() lists {
	var l lists
	for range d.upTo(12) {
		var next list
		for range d.upTo(12) {
			next = append(next, runs.Item{C: d.cell(d.upTo(99)), Pos: d.upTo(6) - 3})
		}
		l = append(l, runs.Resolve(next))
	}
	return l
}

// passed is P9.2's words, by runs.Resolve of one group after the other.
func passed(l lists, width int) lists {
	var groups lists
	for i, next := range l {
		if i%width == 0 {
			groups = append(groups, nil)
		}
		last := &groups[len(groups)-1]
		*last = append(*last, next...)
	}
	for i := range groups {
		groups[i] = runs.Resolve(groups[i])
	}
	return groups
}

// P9.1, P9.2, P9.3
func TestMergesAgainstTheirWords(t *testing.T) {
	d := &dice{7}
	for range 1500 {
		l := d.sorted()
		whole := runs.Resolve(slices.Concat(l...))
		groupIs(t, l, whole...)
		for _, width := range []int{2, 3, 2 + d.upTo(12)} {
			passIs(t, l, width, passed(l, width)...)
			passes, left := 0, l
			for ; len(left) > 1; passes++ {
				left = passed(left, width)
			}
			allIs(t, l, width, whole, passes)
		}
	}
}

// lastOfEach is P9.5's words: of each coordinate the last one of l, in order.
func lastOfEach(l []api.Cell) []api.Cell {
	var last []api.Cell
	for i, c := range l {
		if !slices.ContainsFunc(l[i+1:], func(later api.Cell) bool { return cell.Same(c, later) }) {
			last = append(last, c)
		}
	}
	slices.SortFunc(last, cell.Cmp)
	return last
}

// P9.5: however much memory there is, and how wide it is merged.
func TestSortIsTheSameByAnyMemory(t *testing.T) {
	d := &dice{11}
	for range 60 {
		l := d.cells(d.upTo(120))
		want := lastOfEach(l)
		for _, memory := range []int{1, 2, 3, 1 + d.upTo(60), max(len(l), 1), len(l) + 1, math.MaxInt} {
			for _, width := range []int{2, 3, 2 + d.upTo(60), len(l) + 2, math.MaxInt} {
				if got, _, e := merge.Sort(l, memory, width); e != api.OK || !slices.Equal(got, want) {
					t.Fatalf("Sort(%v, %d, %d) = %v, %d; want %v", l, memory, width, got, e, want)
				}
			}
		}
	}
	l := d.cells(300)
	if got, n, e := merge.Sort(l, 1, 2); e != api.OK || n != 9 || !slices.Equal(got, lastOfEach(l)) {
		t.Errorf("Sort of 300 cells = %v, %d, %d", got, n, e)
	}
}

func cloned(l lists) lists {
	var kept lists
	for _, next := range l {
		kept = append(kept, slices.Clone(next))
	}
	return kept
}

// What is handed in is not changed.
func TestArgumentsAreKept(t *testing.T) {
	d := &dice{5}
	l := d.cells(100)
	made, _ := runs.Make(l, 7)
	keptCells, keptLists := slices.Clone(l), cloned(made)
	merge.Group(made)
	merge.Pass(made, 3)
	merge.All(made, 2)
	merge.Cells(made[0])
	merge.Sort(l, 7, 2)
	if !slices.Equal(l, keptCells) || !same(made, keptLists) {
		t.Error("an argument was changed")
	}
}

// Writing over an answer, or behind its end, changes no other list: neither what was handed in, also
// where it is one list alone, nor another list of the answer.
func TestAnswersAreNew(t *testing.T) {
	l := lists{letters("ab", 0), letters("cd", 2), letters("ef", 4)}
	kept := cloned(l)
	for _, given := range []lists{l, l[:1], {nil, l[0]}} {
		whole, _, _ := merge.All(given, 2)
		clear(whole)
		clear(merge.Group(given))
		p, _ := merge.Pass(given, 2)
		for i := range p {
			clear(p[i])
			_ = append(p[i], make(list, 9)...)
		}
		clear(p)
	}
	clear(merge.Cells(l[0]))
	if !same(l, kept) {
		t.Errorf("the argument changed with the answer: %v", l)
	}

	p, _ := merge.Pass(l, 2)
	clear(p[0])
	_ = append(p[0], make(list, 9)...)
	if !slices.Equal(p[1], kept[2]) {
		t.Errorf("one list changed with another: %v", p[1])
	}

	cells := merge.Cells(l[0])
	got, _, _ := merge.Sort(cells, 2, 2)
	clear(got)
	if !slices.Equal(cells, merge.Cells(kept[0])) {
		t.Errorf("the cells changed with the answer: %v", cells)
	}
}
