package view_test

import (
	"fmt"
	"slices"
	"testing"

	"rickyard/api"
	"rickyard/cell"
	"rickyard/view"
)

// The slow ones are the chapter's words, word by word.

func slowHides(d, c api.Cell) bool {
	if d.Row != c.Row || d.Col != c.Col || d.Seq <= c.Seq {
		return false
	}
	return d.Ts == c.Ts || d.Del && d.Ts >= c.Ts
}

func slowHidden(c api.Cell, l list) bool {
	for _, d := range l {
		if slowHides(d, c) {
			return true
		}
	}
	return false
}

func slowCovers(d, c api.Cell) bool { return slowHides(d, c) && (d.Del || !c.Del) }

// slowAll puts each cell at the place that has as many places ahead of it as there are cells ahead
// of that one.
func slowAll(l lists, at uint64) list {
	var once list
	for _, c := range slices.Concat(l...) {
		beside := func(d api.Cell) bool { return cell.Cmp(c, d) == 0 }
		if c.Seq <= at && !slices.ContainsFunc(once, beside) {
			once = append(once, c)
		}
	}
	out := make(list, len(once))
	for _, c := range once {
		ahead := 0
		for _, d := range once {
			if cell.Cmp(d, c) < 0 {
				ahead++
			}
		}
		out[ahead] = c
	}
	return out
}

func slowScan(l lists, at uint64, from, to string) list {
	var out list
	all := slowAll(l, at)
	for _, c := range all {
		if !c.Del && !slowHidden(c, all) && c.Row >= from && (to == "" || c.Row < to) {
			out = append(out, c)
		}
	}
	return out
}

func slowGet(l lists, at uint64, row, col string) list {
	for _, c := range slowScan(l, at, "", "") {
		if c.Row == row && c.Col == col {
			return list{c}
		}
	}
	return nil
}

func slowKeep(l list, floor uint64, last bool) list {
	var so, out list
	all := slowAll(lists{l}, end)
	for _, c := range all {
		covered := false
		for _, d := range all {
			covered = covered || d.Seq <= floor && slowCovers(d, c)
		}
		if !covered {
			so = append(so, c)
		}
	}
	for _, c := range so {
		hides := false
		for _, d := range so {
			hides = hides || slowHides(c, d)
		}
		if !last || !c.Del || c.Seq > floor || hides {
			out = append(out, c)
		}
	}
	return out
}

// alike tells faults where the answers of l, dealt to lists, are other than the slow ones.
func alike(t *testing.T, l lists, ats []uint64, rows, cols []string) {
	t.Helper()
	whole := slices.Concat(l...)
	for _, c := range whole {
		hiddenIs(t, c, whole, slowHidden(c, whole))
	}
	for _, at := range ats {
		allIs(t, l, at, slowAll(l, at)...)
		keepIs(t, whole, at, false, slowKeep(whole, at, false)...)
		keepIs(t, whole, at, true, slowKeep(whole, at, true)...)
		for _, row := range rows {
			for _, to := range rows {
				scanIs(t, l, at, row, to, slowScan(l, at, row, to)...)
			}
			for _, col := range cols {
				getIs(t, l, at, row, col, slowGet(l, at, row, col)...)
			}
		}
	}
}

// few are cells of two times, and three sequences, each there, and gone.
func few() list {
	var l list
	for i := range 12 {
		c := api.Cell{Row: "r", Col: "c", Ts: uint64(i % 2), Seq: uint64(i / 2 % 3), Del: i >= 6}
		if !c.Del {
			c.Val = fmt.Sprint(i)
		}
		l = append(l, c)
	}
	return l
}

// P14.1 to P14.4: all lists of up to three of twelve cells, at all sequences.
func TestAllShortLists(t *testing.T) {
	cells := few()
	many := len(cells) + 1
	for which := range many * many * many {
		var l lists
		for left, i := which, 0; i < 3; i++ {
			if left%many < len(cells) {
				l = append(l, cells[left%many:left%many+1])
			}
			left /= many
		}
		alike(t, l, []uint64{0, 1, 2}, []string{"", "r"}, []string{"c"})
		if t.Failed() {
			return
		}
	}
}

// P14.4: what is kept of each choice of these cells, each of them once.
func TestKeepOfAllChoices(t *testing.T) {
	cells := few()
	for which := range 1 << len(cells) {
		var l list
		for i, c := range cells {
			if which>>i&1 == 1 {
				l = append(l, c)
			}
		}
		for floor := range uint64(4) {
			for _, last := range []bool{false, true} {
				if got, want := view.Keep(l, floor, last), slowKeep(l, floor, last); !slices.Equal(got, want) {
					t.Fatalf("Keep(%v, %d, %v) = %v; want %v", l, floor, last, got, want)
				}
			}
		}
	}
}

// dice are chance that comes again.
type dice uint64

func (d *dice) below(n int) int {
	*d = *d*6364136223846793005 + 1442695040888963407
	return int(uint64(*d) >> 33 % uint64(n))
}

// number is below n, or, rarely, at the end of all numbers.
func (d *dice) number(n int) uint64 {
	if d.below(20) == 0 {
		return end - uint64(d.below(2))
	}
	return uint64(d.below(n))
}

// cells has many cells, of which one in gone is gone; some may not be.
func (d *dice) cells(many, gone int, rows, cols []string) list {
	var l list
	for i := range many {
		c := api.Cell{
			Row: rows[d.below(len(rows))],
			Col: cols[d.below(len(cols))],
			Ts:  d.number(6),
			Seq: d.number(12),
			Del: d.below(gone) == 0,
		}
		if !c.Del || d.below(10) == 0 {
			c.Val = fmt.Sprint(i)
		}
		l = append(l, c)
	}
	return l
}

// dealt is l in many lists, whose cells stand as they stood.
func (d *dice) dealt(l list, many int) lists {
	out := make(lists, many)
	for _, c := range l {
		i := d.below(many)
		out[i] = append(out[i], c)
	}
	return out
}

// P14.1 to P14.4: long lists of cells of some rows and columns, also of such as may not be.
func TestLongLists(t *testing.T) {
	rows, cols := []string{"", "a", "a\x00", "ab", "b", "\xff"}, []string{"", "b", "c", "cc"}
	ats := []uint64{0, 1, 4, 8, 11, 12, end - 1, end}
	for seed := range 15 {
		d := dice(seed)
		alike(t, d.dealt(d.cells(d.below(150), 2+d.below(6), rows, cols), 1+d.below(5)), ats, rows, cols)
		alike(t, d.dealt(d.cells(d.below(60), 2+d.below(6), rows[3:4], cols[2:3]), 1+d.below(5)), ats, rows, cols)
		if t.Failed() {
			return
		}
	}
}
