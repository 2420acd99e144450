package mem_test

import (
	"slices"
	"testing"

	"rickyard/api"
	"rickyard/cell"
	"rickyard/mem"
)

// orders goes through all orders of l, in l itself.
func orders(l []api.Cell, first int, each func()) {
	if first == len(l) {
		each()
		return
	}
	for i := first; i < len(l); i++ {
		l[first], l[i] = l[i], l[first]
		orders(l, first+1, each)
		l[first], l[i] = l[i], l[first]
	}
}

// P12.3: all orders of seven cells.
func TestAllOrders(t *testing.T) {
	want := []api.Cell{
		cellAt("a", "c", 5, 1),
		cellAt("b", "b", 6, 1),
		cellAt("b", "c", 6, 0),
		cellAt("b", "c", 5, 2),
		cellAt("b", "c", 5, 1),
		cellAt("ba", "a", 9, 9),
		cellAt("c", "c", 5, 1),
	}
	l := slices.Clone(want)
	many := 0
	orders(l, 0, func() {
		many++
		if m := tableOf(t, l...); !slices.Equal(m.Cells(), want) || !slices.Equal(m.Row("b"), want[1:5]) {
			t.Fatalf("%v stand as %v", l, m.Cells())
		}
	})
	if many != 5040 {
		t.Errorf("there were %d orders", many)
	}
}

// manyCells has 7 * 6 * 8 cells, in order.
func manyCells() []api.Cell {
	var l []api.Cell
	for row := range 7 {
		for col := range 6 {
			for i := range 8 {
				l = append(l, cellAt(string(rune('a'+row)), string(rune('p'+col)), uint64(9-i/2), uint64(1-i%2)))
			}
		}
	}
	return l
}

// P12.3: rising, falling, from both ends, and by steps.
func TestOrdersOfManyCells(t *testing.T) {
	want := manyCells()
	n := len(want)
	if !cell.Rising(want) {
		t.Fatal("the cells do not rise")
	}
	for name, place := range map[string]func(i int) int{
		"rising":  func(i int) int { return i },
		"falling": func(i int) int { return n - 1 - i },
		"ends":    func(i int) int { return (i%2)*(n-1-i/2) + (1-i%2)*(i/2) },
		"middle":  func(i int) int { return n/2 + (1-i%2*2)*((i+1)/2) },
		"steps":   func(i int) int { return i * 5 % n },
		"leaps":   func(i int) int { return i * 151 % n },
	} {
		m := mem.New()
		for i := range n {
			put(t, m, want[place(i)])
		}
		if !slices.Equal(m.Cells(), want) {
			t.Errorf("%s: Cells = %v", name, m.Cells())
		}
		holds(t, m, want...)
		spanIs(t, m, "c", "f", want[96:240]...)
	}
}

// P12.3: the orders that the dice make.
func TestOrdersByDice(t *testing.T) {
	want := manyCells()
	for seed := range 50 {
		d := dice(seed)
		l := slices.Clone(want)
		for i := range l {
			j := i + d.below(len(l)-i)
			l[i], l[j] = l[j], l[i]
		}
		holds(t, tableOf(t, l...), want...)
	}
}

// P12.3: what came twice, or may not be, stands nowhere.
func TestOrderWithErrorsBetween(t *testing.T) {
	want := manyCells()
	m := mem.New()
	for i := range want {
		c := want[i*151%len(want)]
		put(t, m, c)
		putFails(t, m, c, api.ErrTwice)
		putFails(t, m, api.Cell{Row: c.Row}, api.ErrArg)
	}
	holds(t, m, want...)
}
