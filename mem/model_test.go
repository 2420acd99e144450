package mem_test

import (
	"slices"
	"strings"
	"testing"

	"rickyard/api"
	"rickyard/cell"
	"rickyard/mem"
)

// slowTable is the document's rules, word by word: cells as they came.
type slowTable struct{ came []api.Cell }

func (s *slowTable) put(c api.Cell) api.Errno {
	if !cell.May(c) {
		return api.ErrArg
	}
	for _, d := range s.came {
		if cell.Cmp(c, d) == 0 {
			return api.ErrTwice
		}
	}
	s.came = append(s.came, c)
	return api.OK
}

// those is the cells that are so, in order: each has as many ahead of it as it has places.
func (s *slowTable) those(is func(c api.Cell) bool) []api.Cell {
	var l []api.Cell
	for _, c := range s.came {
		if is(c) {
			l = append(l, c)
		}
	}
	out := make([]api.Cell, len(l))
	for _, c := range l {
		ahead := 0
		for _, d := range l {
			if cell.Cmp(d, c) < 0 {
				ahead++
			}
		}
		out[ahead] = c
	}
	return out
}

// alike tells faults where m answers otherwise than the slow table; rows are those asked for.
func alike(t *testing.T, m *mem.Table, s *slowTable, rows []string) {
	t.Helper()
	holds(t, m, s.those(func(api.Cell) bool { return true })...)
	for _, row := range rows {
		rowIs(t, m, row, s.those(func(c api.Cell) bool { return c.Row == row })...)
		for _, to := range rows {
			spanIs(t, m, row, to, s.those(func(c api.Cell) bool {
				return c.Row >= row && (to == "" || c.Row < to)
			})...)
		}
	}
}

// dice are chance that comes again.
type dice uint64

func (d *dice) below(n int) int {
	*d = *d*6364136223846793005 + 1442695040888963407
	return int(uint64(*d) >> 33 % uint64(n))
}

func (d *dice) cell(rows []string) api.Cell {
	c := api.Cell{
		Row: rows[d.below(len(rows))],
		Col: []string{"c", "cc", "d"}[d.below(3)],
		Ts:  uint64(d.below(3)),
		Seq: uint64(d.below(3)),
		Val: strings.Repeat("v", d.below(4)),
	}
	switch d.below(30) {
	case 0:
		c.Row = ""
	case 1:
		c.Val = strings.Repeat("v", api.MaxValue+1)
	case 2, 3, 4, 5:
		c.Del = true
	}
	return c
}

// P12.1, P12.2: all rows of four acts, of four cells, one that may not be, and Clear.
func TestAllShortRowsOfActs(t *testing.T) {
	cells := append(of("a b c"), cellAt("b", "c", 6, 1), cellAt("", "c", 5, 1))
	acts := len(cells) + 1
	for row := range acts * acts * acts * acts {
		m, s := mem.New(), &slowTable{}
		left := row
		for range 4 {
			i := left % acts
			left /= acts
			if i < len(cells) {
				if got, want := m.Put(cells[i]), s.put(cells[i]); got != want {
					t.Fatalf("row %d: Put(%v) = %d; want %d", row, cells[i], got, want)
				}
			} else {
				m.Clear()
				s.came = nil
			}
		}
		alike(t, m, s, []string{"", "a", "b", "bb", "c"})
	}
}

// P12.1, P12.2: long rows of acts.
func TestLongRowsOfActs(t *testing.T) {
	rows := strings.Fields("a aa b c d e f")
	for seed := range 30 {
		d := dice(seed)
		m, s := mem.New(), &slowTable{}
		for act := range 300 {
			if d.below(150) == 0 {
				m.Clear()
				s.came = nil
			}
			c := d.cell(rows)
			if got, want := m.Put(c), s.put(c); got != want {
				t.Fatalf("seed %d, act %d: Put(%v) = %d; want %d", seed, act, c, got, want)
			}
			if act%60 == 59 {
				alike(t, m, s, slices.Concat(rows, []string{"", "ab", "g"}))
			}
		}
	}
}
