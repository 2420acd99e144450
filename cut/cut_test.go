package cut_test

import (
	"math"
	"slices"
	"strings"
	"testing"

	"rickyard/api"
	"rickyard/cut"
)

type (
	list  = []api.Cell
	lists = [][]api.Cell
)

// of has a cell a word, whose row it is; times fall, so that cells of one row rise.
func of(rows string) list {
	var l list
	for i, row := range strings.Fields(rows) {
		l = append(l, api.Cell{Row: row, Col: "c", Ts: uint64(1000 - i)})
	}
	return l
}

// each is the cells of one text, in lists of as many as the parts of the others have.
func each(parts ...string) lists {
	left := of(strings.Join(parts, " "))
	l := lists{}
	for _, part := range parts {
		n := len(strings.Fields(part))
		l, left = append(l, left[:n]), left[n:]
	}
	return l
}

func same(a, b lists) bool { return slices.EqualFunc(a, b, slices.Equal[list]) }

func samePieces(a, b []cut.Piece) bool {
	return slices.EqualFunc(a, b, func(x, y cut.Piece) bool {
		return x.Tablet == y.Tablet && slices.Equal(x.Cells, y.Cells)
	})
}

func splitIs(t *testing.T, l list, borders []string, want ...list) {
	t.Helper()
	if got, e := cut.Split(l, borders); e != api.OK || !same(got, want) {
		t.Errorf("Split(%v, %q) = %v, %d; want %v", l, borders, got, e, want)
	}
}

func rollIs(t *testing.T, l list, most int, want ...list) {
	t.Helper()
	if got, e := cut.Roll(l, most); e != api.OK || !same(got, want) {
		t.Errorf("Roll(%v, %d) = %v, %d; want %v", l, most, got, e, want)
	}
}

func allIs(t *testing.T, l list, borders []string, most int, want ...cut.Piece) {
	t.Helper()
	if got, e := cut.All(l, borders, most); e != api.OK || !samePieces(got, want) {
		t.Errorf("All(%v, %q, %d) = %v, %d; want %v", l, borders, most, got, e, want)
	}
}

func splitFails(t *testing.T, l list, borders []string, want api.Errno) {
	t.Helper()
	if got, e := cut.Split(l, borders); e != want || len(got) != 0 {
		t.Errorf("Split(%v, %q) = %v, %d; want the error %d", l, borders, got, e, want)
	}
}

func rollFails(t *testing.T, l list, most int, want api.Errno) {
	t.Helper()
	if got, e := cut.Roll(l, most); e != want || len(got) != 0 {
		t.Errorf("Roll(%v, %d) = %v, %d; want the error %d", l, most, got, e, want)
	}
}

func allFails(t *testing.T, l list, borders []string, most int, want api.Errno) {
	t.Helper()
	if got, e := cut.All(l, borders, most); e != want || len(got) != 0 {
		t.Errorf("All(%v, %q, %d) = %v, %d; want the error %d", l, borders, most, got, e, want)
	}
}

// long is a name that is as long as one may be.
func long() string { return strings.Repeat("n", 40) }

func goodBorders() [][]string {
	return [][]string{
		nil,
		{},
		{"\x00"},
		{"\xff"},
		{long()},
		{"a", "b"},
		{"a", "a\x00", "aa", "ab", "b", "é"},
		{"\x00", "\x00\x00", "\x7f", "\x80", "\xff", "\xff\x00"},
		{long()[:39], long(), "o", strings.Repeat("\xff", 40)},
	}
}

// badBorders are each wrong in one place alone: at the first one, at the last one, or between.
func badBorders() [][]string {
	return [][]string{
		{""},
		{"", "a"},
		{"a", ""},
		{"a", "", "b"},
		{long() + "n"},
		{"a", long() + "n"},
		{long() + "n", "o"},
		{"a", "a"},
		{"b", "a"},
		{"aa", "a"},
		{"\x80", "\x7f"},
		{"a", "b", "b"},
		{"a", "a", "b"},
		{"a", "c", "b", "d"},
		{"b", "c", "a"},
		{strings.Repeat("x", 300)},
	}
}

// notRising are lists of cells that turn back, or have one of them twice.
func notRising() lists {
	turned := of("a b")
	slices.Reverse(turned)
	times := of("a a")
	slices.Reverse(times)
	twice := of("a")
	twice = append(twice, twice[0])
	columns := list{{Row: "a", Col: "d"}, {Row: "a", Col: "c"}}
	sequences := list{{Row: "a", Col: "c", Seq: 1}, {Row: "a", Col: "c", Seq: 2}}
	late := append(of("a b c d"), api.Cell{Row: "c", Col: "e"})
	return lists{turned, times, twice, columns, sequences, late}
}

// P10.1
func TestBorders(t *testing.T) {
	for _, l := range goodBorders() {
		if !cut.Borders(l) {
			t.Errorf("Borders(%q) = false", l)
		}
	}
	for _, l := range badBorders() {
		if cut.Borders(l) {
			t.Errorf("Borders(%q) = true", l)
		}
	}
}

// P10.1: the chapter's example is the first line.
func TestPlace(t *testing.T) {
	for _, c := range []struct {
		borders string
		row     string
		want    int
	}{
		{"m", "m", 1},
		{"m", "l", 0},
		{"m", "n", 1},
		{"m", "", 0},
		{"m", "m\x00", 1},
		{"m", "lzzz", 0},
		{"m", "\xff", 1},
		{"", "", 0},
		{"", "m", 0},
		{"c e m", "b", 0},
		{"c e m", "c", 1},
		{"c e m", "dz", 1},
		{"c e m", "e", 2},
		{"c e m", "lz", 2},
		{"c e m", "m", 3},
		{"c e m", "z", 3},
		{"a aa ab b", "a", 1},
		{"a aa ab b", "a\x00", 1},
		{"a aa ab b", "aaa", 2},
		{"a aa ab b", "az", 3},
		{"a aa ab b", strings.Repeat("b", 300), 4},
		{"\x7f \x80 \xff", "\x80", 2},
		{"\x7f \x80 \xff", "\xfe", 2},
		{"\x7f \x80 \xff", "\xff\xff", 3},
	} {
		borders := strings.Fields(c.borders)
		if n := cut.Place(borders, c.row); n != c.want {
			t.Errorf("Place(%q, %q) = %d; want %d", borders, c.row, n, c.want)
		}
	}
	if n := cut.Place(nil, "m"); n != 0 {
		t.Errorf("Place(nil, m) = %d", n)
	}
}

// P10.1: how many are at most a row is asked of any texts, also of those that may be no borders.
func TestPlaceAmongWhatMayBeNoBorders(t *testing.T) {
	for _, c := range []struct {
		borders []string
		row     string
		want    int
	}{
		{[]string{""}, "", 1},
		{[]string{"", ""}, "a", 2},
		{[]string{"b", "a"}, "a", 1},
		{[]string{"b", "a"}, "b", 2},
		{[]string{"b", "a"}, "0", 0},
		{[]string{"a", "a", "b"}, "a", 2},
		{[]string{"a", "z", "b", "y", "c"}, "m", 3},
		{[]string{"z", "y", "x", "a", "b"}, "m", 2},
		{[]string{long() + "n"}, long(), 0},
		{[]string{long() + "n"}, long() + "n", 1},
	} {
		if n := cut.Place(c.borders, c.row); n != c.want {
			t.Errorf("Place(%q, %q) = %d; want %d", c.borders, c.row, n, c.want)
		}
	}
}

// P10.2
func TestSplit(t *testing.T) {
	borders := []string{"c", "e", "m"}
	splitIs(t, of("a b c c e z"), borders, each("a b", "c c", "e", "z")...)
	splitIs(t, of("a b bz"), borders, each("a b bz", "", "", "")...)
	splitIs(t, of("c"), borders, each("", "c", "", "")...)
	splitIs(t, of("d dz ez f lz"), borders, each("", "d dz", "ez f lz", "")...)
	splitIs(t, of("m z"), borders, each("", "", "", "m z")...)
	splitIs(t, of("a z"), borders, each("a", "", "", "z")...)
	splitIs(t, of("b bb bc c"), []string{"b", "bb", "bc", "c"}, each("", "b", "bb", "bc", "c")...)
	splitIs(t, of("a b c"), nil, of("a b c"))
	splitIs(t, of("a b c"), []string{}, of("a b c"))
}

// P10.2: there is one list more than there are borders, also without cells.
func TestSplitOfNothing(t *testing.T) {
	for _, borders := range goodBorders() {
		for _, l := range []list{nil, {}} {
			splitIs(t, l, borders, make(lists, len(borders)+1)...)
		}
	}
}

// P10.2: rows alone part cells; cells that may not be stored are cells like all others.
func TestSplitTakesAnyCell(t *testing.T) {
	l := list{
		{},
		{Row: "m", Ts: math.MaxUint64, Seq: math.MaxUint64, Del: true, Val: "v"},
		{Row: "m", Ts: math.MaxUint64, Seq: 5},
		{Row: "m", Col: "a", Ts: 9},
		{Row: "m", Col: "z", Ts: 10, Val: strings.Repeat("v", 300)},
		{Row: "m\x00", Col: "a"},
		{Row: strings.Repeat("\xff", 300)},
	}
	splitIs(t, l, []string{"m", "n"}, l[:1], l[1:6], l[6:])
	splitIs(t, l, []string{"\x00", "m\x00"}, l[:1], l[1:5], l[5:])
}

// P10.2: borders that may not be are told ahead of cells that do not rise.
func TestSplitErrors(t *testing.T) {
	for _, borders := range badBorders() {
		for _, l := range append(notRising(), nil, of("a b c")) {
			splitFails(t, l, borders, api.ErrArg)
		}
	}
	for _, borders := range goodBorders() {
		for _, l := range notRising() {
			splitFails(t, l, borders, api.ErrOrder)
		}
	}
}

// P10.3
func TestRoll(t *testing.T) {
	l := of("a a b b b c d")
	rollIs(t, l, 1, each("a a", "b b b", "c", "d")...)
	rollIs(t, l, 2, each("a a", "b b b", "c d")...)
	rollIs(t, l, 3, each("a a", "b b b", "c d")...)
	rollIs(t, l, 4, each("a a", "b b b c", "d")...)
	rollIs(t, l, 5, each("a a b b b", "c d")...)
	rollIs(t, l, 6, each("a a b b b c", "d")...)
	for _, most := range []int{7, 8, math.MaxInt} {
		rollIs(t, l, most, l)
	}
}

// P10.3: a row of more than most cells is in one list, with no other row.
func TestRollOfRowsThatAreTooLong(t *testing.T) {
	l := of("a b b b c")
	rollIs(t, l, 2, each("a", "b b b", "c")...)
	rollIs(t, l, 1, each("a", "b b b", "c")...)
	rollIs(t, of("a a a"), 1, of("a a a"))
	rollIs(t, of("a a a b"), 2, each("a a a", "b")...)
	rollIs(t, of("a b b b"), 2, each("a", "b b b")...)
	rollIs(t, of("a a a b b b"), 1, each("a a a", "b b b")...)
}

// P10.3: a list takes no row behind one that found no room, be it ever so short.
func TestRollKeepsTheOrder(t *testing.T) {
	rollIs(t, of("a b b b c c d"), 3, each("a", "b b b", "c c d")...)
	rollIs(t, of("a a b b c"), 3, each("a a", "b b c")...)
}

// P10.3
func TestRollOfNothing(t *testing.T) {
	for _, most := range []int{1, 2, math.MaxInt} {
		rollIs(t, nil, most)
		rollIs(t, list{}, most)
	}
}

// P10.3: a row is what has the same Row, to the byte, whatever else its cells have.
func TestRollTakesAnyCell(t *testing.T) {
	l := list{
		{},
		{Col: "a", Ts: math.MaxUint64, Del: true, Val: "v"},
		{Row: "m", Ts: math.MaxUint64, Seq: math.MaxUint64},
		{Row: "m", Ts: math.MaxUint64, Seq: 5},
		{Row: "m", Col: "z", Val: strings.Repeat("v", 300)},
		{Row: "m\x00", Col: "z"},
		{Row: strings.Repeat("\xff", 300)},
	}
	rollIs(t, l, 1, l[:2], l[2:5], l[5:6], l[6:])
	rollIs(t, l, 4, l[:2], l[2:6], l[6:])
}

// P10.3: most is told ahead of cells that do not rise.
func TestRollErrors(t *testing.T) {
	for _, l := range append(notRising(), nil, list{}, of("a"), of("a b c")) {
		for _, most := range []int{0, -1, -300, math.MinInt} {
			rollFails(t, l, most, api.ErrArg)
		}
	}
	for _, l := range notRising() {
		for _, most := range []int{1, 2, 300, math.MaxInt} {
			rollFails(t, l, most, api.ErrOrder)
		}
	}
}

// P10.4
func TestAll(t *testing.T) {
	l := each("a", "b b", "c", "d d")
	piece := func(tablet int, cells ...list) cut.Piece {
		return cut.Piece{Tablet: tablet, Cells: slices.Concat(cells...)}
	}
	whole := slices.Concat(l...)
	allIs(t, whole, []string{"c"}, 2, piece(0, l[0]), piece(0, l[1]), piece(1, l[2]), piece(1, l[3]))
	allIs(t, whole, []string{"c"}, 1, piece(0, l[0]), piece(0, l[1]), piece(1, l[2]), piece(1, l[3]))
	allIs(t, whole, []string{"c"}, 3, piece(0, l[0], l[1]), piece(1, l[2], l[3]))
	allIs(t, whole, []string{"c"}, math.MaxInt, piece(0, l[0], l[1]), piece(1, l[2], l[3]))
	allIs(t, whole, []string{"b", "d"}, 3, piece(0, l[0]), piece(1, l[1], l[2]), piece(2, l[3]))
	allIs(t, whole, nil, 3, piece(0, l[0], l[1]), piece(0, l[2], l[3]))
	allIs(t, whole, nil, math.MaxInt, piece(0, whole))
}

// P10.4: a tablet without rows has its number, but no piece.
func TestAllOfTabletsWithoutRows(t *testing.T) {
	allIs(t, of("b"), []string{"a", "b", "c"}, 1, cut.Piece{Tablet: 2, Cells: of("b")})
	l := of("a z")
	allIs(t, l, []string{"c", "e", "m"}, 9, cut.Piece{Tablet: 0, Cells: l[:1]}, cut.Piece{Tablet: 3, Cells: l[1:]})
	for _, borders := range goodBorders() {
		allIs(t, nil, borders, 1)
		allIs(t, list{}, borders, math.MaxInt)
	}
}

// P10.4: Split's error comes ahead of Roll's, which is told also where there is nothing to roll.
func TestAllErrors(t *testing.T) {
	for _, most := range []int{math.MinInt, -1, 0, 1, math.MaxInt} {
		for _, borders := range badBorders() {
			for _, l := range append(notRising(), nil, of("a b c")) {
				allFails(t, l, borders, most, api.ErrArg)
			}
		}
		for _, borders := range goodBorders() {
			for _, l := range notRising() {
				allFails(t, l, borders, most, api.ErrOrder)
			}
		}
	}
	for _, most := range []int{math.MinInt, -1, 0} {
		for _, borders := range goodBorders() {
			for _, l := range []list{nil, {}, of("a"), of("a b c")} {
				allFails(t, l, borders, most, api.ErrArg)
			}
		}
	}
}
