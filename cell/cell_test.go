package cell_test

import (
	"math"
	"slices"
	"strings"
	"testing"

	"rickyard/api"
	"rickyard/cell"
)

func name(n int) string {
	return strings.Repeat("n", n)
}

// P1.1
func TestMayLooksAtLengthsOfNames(t *testing.T) {
	for n, is := range map[int]bool{0: false, 1: true, 2: true, 39: true, 40: true, 41: false, 255: false, 256: false, 257: false, 296: false} {
		if got := cell.May(api.Cell{Row: name(n), Col: "c"}); got != is {
			t.Errorf("a row of %d bytes: %v", n, got)
		}
		if got := cell.May(api.Cell{Row: "r", Col: name(n)}); got != is {
			t.Errorf("a column of %d bytes: %v", n, got)
		}
	}
}

// P1.1
func TestMayCountsBytesOfAnyKind(t *testing.T) {
	for _, x := range []struct {
		row string
		is  bool
	}{
		{"\x00", true},
		{"\xff", true},
		{strings.Repeat("\x00", 40), true},
		{strings.Repeat("\xff", 40), true},
		{strings.Repeat("\x00", 41), false},
		{strings.Repeat("é", 20), true},
		{strings.Repeat("é", 20) + "e", false},
	} {
		if got := cell.May(api.Cell{Row: x.row, Col: "c"}); got != x.is {
			t.Errorf("row %q: %v", x.row, got)
		}
		if got := cell.May(api.Cell{Row: "r", Col: x.row}); got != x.is {
			t.Errorf("column %q: %v", x.row, got)
		}
	}
}

// P1.1
func TestMayLooksAtValues(t *testing.T) {
	for _, x := range []struct {
		many int
		del  bool
		is   bool
	}{
		{0, false, true},
		{1, false, true},
		{100, false, true},
		{101, false, false},
		{256, false, false},
		{0, true, true},
		{1, true, false},
		{100, true, false},
		{101, true, false},
	} {
		c := api.Cell{Row: "r", Col: "c", Del: x.del, Val: strings.Repeat("v", x.many)}
		if got := cell.May(c); got != x.is {
			t.Errorf("a value of %d bytes, Del %v: %v", x.many, x.del, got)
		}
	}
}

// P1.1
func TestMayTakesAllTimes(t *testing.T) {
	for _, n := range []uint64{0, 1, math.MaxUint64} {
		if !cell.May(api.Cell{Row: "r", Col: "c", Ts: n, Seq: n}) {
			t.Error(n)
		}
	}
}

// rising are cells as they must stand; some of them may not be, but have their place all the same.
func rising() []api.Cell {
	const most = math.MaxUint64
	return []api.Cell{
		{},
		{Col: "c"},
		{Row: "\x00", Col: "z"},
		{Row: "\x00\x00", Col: "c"},
		{Row: "\x00\x01", Col: "c"},
		{Row: "\x00\xff", Col: "c"},
		{Row: "\x01", Col: "c"},
		{Row: "B", Col: "c"},
		{Row: "a"},
		{Row: "a", Col: "\x00"},
		{Row: "a", Col: "\x00\xff"},
		{Row: "a", Col: "\x01"},
		{Row: "a", Col: "c", Ts: most, Seq: most},
		{Row: "a", Col: "c", Ts: most, Seq: 0},
		{Row: "a", Col: "c", Ts: 256, Seq: 0},
		{Row: "a", Col: "c", Ts: 255, Seq: 9},
		{Row: "a", Col: "c", Ts: 5, Seq: 0},
		{Row: "a", Col: "c", Ts: 4, Seq: 7},
		{Row: "a", Col: "c", Ts: 4, Seq: 6},
		{Row: "a", Col: "c", Ts: 0, Seq: most},
		{Row: "a", Col: "c", Ts: 0, Seq: 1},
		{Row: "a", Col: "c", Ts: 0, Seq: 0},
		{Row: "a", Col: "c\x00", Ts: most},
		{Row: "a", Col: "ca"},
		{Row: "a", Col: "\xff"},
		{Row: "a\x00", Col: "c"},
		{Row: "a\x00b", Col: "c"},
		{Row: "a\x01", Col: "c"},
		{Row: "aa", Col: "c"},
		{Row: name(40), Col: "c"},
		{Row: name(41), Col: "c"},
		{Row: "\xff", Col: "c"},
		{Row: "\xff\x00", Col: "c"},
		{Row: "\xff\xff", Col: "c"},
	}
}

func sign(i, k int) int {
	switch {
	case i < k:
		return -1
	case i > k:
		return 1
	}
	return 0
}

// P1.2
func TestCmpOfAllPairs(t *testing.T) {
	l := rising()
	for i, a := range l {
		for k, b := range l {
			if got := cell.Cmp(a, b); got != sign(i, k) {
				t.Errorf("Cmp(%+v, %+v) = %d", a, b, got)
			}
		}
	}
}

// P1.2
func TestCmpOfTheExample(t *testing.T) {
	if got := cell.Cmp(api.Cell{Row: "r", Col: "c", Ts: 5}, api.Cell{Row: "r", Col: "c", Ts: 4}); got != -1 {
		t.Error(got)
	}
}

// P1.2
func TestCmpLooksNeitherAtDelNorAtVal(t *testing.T) {
	c := api.Cell{Row: "r", Col: "c", Ts: 3, Seq: 4}
	for _, d := range []api.Cell{
		{Row: "r", Col: "c", Ts: 3, Seq: 4, Del: true},
		{Row: "r", Col: "c", Ts: 3, Seq: 4, Val: "v"},
		{Row: "r", Col: "c", Ts: 3, Seq: 4, Del: true, Val: name(101)},
	} {
		if cell.Cmp(c, d) != 0 || cell.Cmp(d, c) != 0 {
			t.Errorf("%+v", d)
		}
	}
}

// P1.2
func TestSame(t *testing.T) {
	c := api.Cell{Row: "r", Col: "c", Ts: 3, Seq: 4, Val: "v"}
	for _, x := range []struct {
		d  api.Cell
		is bool
	}{
		{c, true},
		{api.Cell{Row: "r", Col: "c", Ts: 3}, true},
		{api.Cell{Row: "r", Col: "c", Ts: 3, Seq: math.MaxUint64, Del: true}, true},
		{api.Cell{Row: "R", Col: "c", Ts: 3, Seq: 4, Val: "v"}, false},
		{api.Cell{Row: "r", Col: "C", Ts: 3, Seq: 4, Val: "v"}, false},
		{api.Cell{Row: "r", Col: "c", Ts: 2, Seq: 4, Val: "v"}, false},
		{api.Cell{Row: "c", Col: "r", Ts: 3, Seq: 4, Val: "v"}, false},
		{api.Cell{Row: "rc", Ts: 3, Seq: 4, Val: "v"}, false},
		{api.Cell{Row: "r\x00", Col: "c", Ts: 3, Seq: 4, Val: "v"}, false},
		{api.Cell{}, false},
	} {
		if cell.Same(c, x.d) != x.is || cell.Same(x.d, c) != x.is {
			t.Errorf("%+v", x.d)
		}
	}
	if !cell.Same(api.Cell{}, api.Cell{Seq: 1}) {
		t.Error("cells without names")
	}
}

// P1.2
func TestRising(t *testing.T) {
	l := rising()
	kept := slices.Clone(l)
	if !cell.Rising(l) || !cell.Rising(nil) || !cell.Rising([]api.Cell{}) || !cell.Rising(l[3:4]) {
		t.Error("a list that rises")
	}
	for i := range len(l) - 1 {
		swapped := slices.Clone(l)
		swapped[i], swapped[i+1] = swapped[i+1], swapped[i]
		if cell.Rising(swapped) {
			t.Errorf("places %d and %d are changed", i, i+1)
		}
		if cell.Rising(slices.Insert(slices.Clone(l), i, l[i])) {
			t.Errorf("place %d stands twice", i)
		}
	}
	beside := []api.Cell{{Row: "r", Col: "c", Val: "a"}, {Row: "r", Col: "c", Val: "b"}}
	if cell.Rising(beside) {
		t.Error("cells beside one another")
	}
	if !slices.Equal(l, kept) {
		t.Error("the list was changed")
	}
}
