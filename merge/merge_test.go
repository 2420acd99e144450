package merge_test

import (
	"math"
	"slices"
	"strconv"
	"testing"

	"rickyard/api"
	"rickyard/merge"
	"rickyard/runs"
)

type (
	list  = []runs.Item
	lists = [][]runs.Item
)

// item is of a coordinate that its row tells, and of its own by its value.
func item(row, val string, pos int) runs.Item {
	return runs.Item{C: api.Cell{Row: row, Col: "c", Ts: 5, Val: val}, Pos: pos}
}

// letters has an item a letter, in the order of the text, with places from first on.
func letters(text string, first int) list {
	var l list
	for i := range len(text) {
		l = append(l, item(text[i:i+1], strconv.Itoa(first+i), first+i))
	}
	return l
}

func same(a, b lists) bool { return slices.EqualFunc(a, b, slices.Equal[list]) }

func groupIs(t *testing.T, l lists, want ...runs.Item) {
	t.Helper()
	if got := merge.Group(l); !slices.Equal(got, want) {
		t.Errorf("Group(%v) = %v; want %v", l, got, want)
	}
}

func passIs(t *testing.T, l lists, width int, want ...list) {
	t.Helper()
	if got, e := merge.Pass(l, width); e != api.OK || !same(got, want) {
		t.Errorf("Pass(%v, %d) = %v, %d; want %v", l, width, got, e, want)
	}
}

func passFails(t *testing.T, l lists, width int, want api.Errno) {
	t.Helper()
	if got, e := merge.Pass(l, width); e != want || len(got) != 0 {
		t.Errorf("Pass(%v, %d) = %v, %d; want the error %d", l, width, got, e, want)
	}
}

func allIs(t *testing.T, l lists, width int, want list, passes int) {
	t.Helper()
	if got, n, e := merge.All(l, width); e != api.OK || n != passes || !slices.Equal(got, want) {
		t.Errorf("All(%v, %d) = %v, %d, %d; want %v, %d", l, width, got, n, e, want, passes)
	}
}

func allFails(t *testing.T, l lists, width int, want api.Errno) {
	t.Helper()
	if got, n, e := merge.All(l, width); e != want || n != 0 || len(got) != 0 {
		t.Errorf("All(%v, %d) = %v, %d, %d; want the error %d", l, width, got, n, e, want)
	}
}

// unsorted are lists that are no runs: turned round, with an item twice, with a coordinate twice.
func unsorted() lists {
	return lists{
		letters("ba", 0),
		letters("abdc", 0),
		{item("a", "v", 0), item("a", "v", 0)},
		{item("a", "v", 1), item("a", "w", 0)},
		{item("a", "v", 0), item("a", "w", 1)},
	}
}

// P9.1
func TestGroupTakesListsTogether(t *testing.T) {
	a, b, c, d := item("a", "", 3), item("b", "", 2), item("c", "", 1), item("d", "", 0)
	for _, l := range []lists{
		{{a, b, c, d}},
		{{a, c}, {b, d}},
		{{b, d}, {a, c}},
		{{c, d}, {a, b}},
		{{d}, {c}, {b}, {a}},
		{nil, {b}, {}, {a, c, d}, nil},
		{{a, b, c, d}, {a, b, c, d}, {d}, {a}},
	} {
		groupIs(t, l, a, b, c, d)
	}
}

// P9.1
func TestGroupOfNothing(t *testing.T) {
	for _, l := range []lists{nil, {}, {nil}, {{}}, {nil, {}, nil}} {
		groupIs(t, l)
	}
}

// P9.1: the greatest place counts, whichever list has it.
func TestGroupKeepsTheGreatestPlace(t *testing.T) {
	x, y, z := item("r", "x", math.MinInt), item("r", "y", -1), item("r", "z", math.MaxInt)
	for _, l := range []lists{{{x}, {y}, {z}}, {{x}, {z}, {y}}, {{y}, {x}, {z}}, {{y}, {z}, {x}}, {{z}, {x}, {y}}, {{z}, {y}, {x}}} {
		groupIs(t, l, z)
	}
	groupIs(t, lists{{item("a", "", 9), y}, {x, item("s", "", 0)}}, item("a", "", 9), y, item("s", "", 0))
}

// P9.1: of several of one place the one of the first list counts, whatever else they have.
func TestGroupKeepsTheFirstOfOnePlace(t *testing.T) {
	a, b, c := item("r", "a", 4), item("r", "b", 4), item("r", "c", 4)
	b.C.Seq = 9
	c.C.Del = true
	for _, l := range []list{{a, b, c}, {a, c, b}, {b, a, c}, {b, c, a}, {c, a, b}, {c, b, a}} {
		groupIs(t, lists{l[:1], l[1:2], l[2:]}, l[0])
		// Ahead of them there may be other items, by which the lists change places.
		groupIs(t, lists{{item("k", "", 0), l[0]}, {item("j", "", 0), l[1]}, {l[2]}},
			item("j", "", 0), item("k", "", 0), l[0])
		groupIs(t, lists{l[:1], l[1:2], {item("r", "x", 5)}}, item("r", "x", 5))
	}

	var many lists
	for i := range 300 {
		many = append(many, list{item("a", strconv.Itoa(i), 7), item("b", strconv.Itoa(i), 7)})
	}
	groupIs(t, many, many[0]...)
}

// P9.1: rows and columns rise, times fall; a sequence, a value, or being gone, makes no other coordinate.
func TestGroupGoesByCoordinate(t *testing.T) {
	at := func(row, col string, ts uint64) runs.Item {
		return runs.Item{C: api.Cell{Row: row, Col: col, Ts: ts}}
	}
	l := list{at("", "", 0), at("", "ab", 1), at("\x00", "", 9), at("a", "b", math.MaxUint64), at("a", "b", 2), at("a", "b", 0), at("a", "ba", 9), at("ab", "", 1), at("\xff", "", 1)}
	var single lists
	for _, i := range l {
		single = append(single, list{i})
	}
	groupIs(t, single, l...)
	slices.Reverse(single)
	groupIs(t, single, l...)

	value, gone := item("r", "v", 1), item("r", "", 2)
	value.C.Seq, gone.C.Del = math.MaxUint64, true
	groupIs(t, lists{{value}, {gone}}, gone)
	gone.Pos = 0
	groupIs(t, lists{{gone}, {value}}, value)
}

// P9.1: wherever the list stands that is not sorted.
func TestGroupOfListsThatAreNotSorted(t *testing.T) {
	good := letters("xyz", 0)
	for _, bad := range unsorted() {
		for _, l := range []lists{{bad}, {bad, good}, {good, bad}, {nil, bad}, {good, good, bad, good}} {
			groupIs(t, l)
		}
	}
}

// P9.2
func TestPassMergesSomeAtATime(t *testing.T) {
	a, b, c, d, e := letters("a", 4), letters("b", 3), letters("c", 2), letters("d", 1), letters("e", 0)
	l := lists{e, d, c, b, a}
	de, bc, cde, ab := slices.Concat(d, e), slices.Concat(b, c), slices.Concat(c, d, e), slices.Concat(a, b)
	whole := slices.Concat(a, b, c, d, e)
	passIs(t, l, 2, de, bc, a)
	passIs(t, l, 3, cde, ab)
	passIs(t, l, 4, slices.Concat(b, cde), a)
	passIs(t, l, 5, whole)
	passIs(t, l, 6, whole)
	passIs(t, l, math.MaxInt, whole)
	passIs(t, l[:4], 2, de, bc)
	passIs(t, l[:1], 2, e)
	passIs(t, nil, 2)
	passIs(t, lists{}, math.MaxInt)
}

// P9.2: a list without items is a list too.
func TestPassCountsEmptyLists(t *testing.T) {
	passIs(t, lists{nil}, 2, nil)
	passIs(t, lists{nil, {}, nil}, 2, nil, nil)
	passIs(t, lists{letters("b", 0), nil, nil, nil, letters("a", 1)}, 2, letters("b", 0), nil, letters("a", 1))
}

// P9.2: what is beaten goes where its group is; other groups keep theirs.
func TestPassResolvesEachGroup(t *testing.T) {
	x, y, z := item("r", "x", 0), item("r", "y", 1), item("r", "z", 2)
	passIs(t, lists{{x}, {z}, {y}}, 2, list{z}, list{y})
	passIs(t, lists{{x}, {y}, {z}}, 3, list{z})
	twin := item("r", "twin", 2)
	passIs(t, lists{{twin}, {z}, {z}, {twin}}, 2, list{twin}, list{z})
}

// P9.2, P9.3: a width that may not be is told ahead of a list that is not sorted.
func TestWidthsThatMayNotBe(t *testing.T) {
	good := letters("xyz", 0)
	for _, l := range []lists{nil, {nil}, {good}, {good, good}, unsorted()[:1], unsorted()} {
		for _, width := range []int{1, 0, -1, -2, math.MinInt} {
			passFails(t, l, width, api.ErrArg)
			allFails(t, l, width, api.ErrArg)
		}
	}
}

// P9.2, P9.3: also in a group behind the first one, and where there is one list alone.
func TestListsThatAreNotSorted(t *testing.T) {
	good := letters("xyz", 0)
	for _, bad := range unsorted() {
		for _, l := range []lists{{bad}, {bad, good}, {good, bad}, {good, good, bad}, {good, good, good, good, bad}, {nil, nil, bad}} {
			for _, width := range []int{2, 3, 300, math.MaxInt} {
				passFails(t, l, width, api.ErrOrder)
				allFails(t, l, width, api.ErrOrder)
			}
		}
	}
}

// P9.3
func TestAllOfOneListOrNone(t *testing.T) {
	for _, width := range []int{2, 3, math.MaxInt} {
		allIs(t, nil, width, nil, 0)
		allIs(t, lists{}, width, nil, 0)
		allIs(t, lists{nil}, width, nil, 0)
		allIs(t, lists{letters("abc", 0)}, width, letters("abc", 0), 0)
	}
}

// P9.3: how many passes there are; the chapter's example is the first line.
func TestAllCountsPasses(t *testing.T) {
	for _, c := range []struct{ lists, width, passes int }{
		{5, 2, 3}, {2, 2, 1}, {3, 2, 2}, {4, 2, 2}, {8, 2, 3}, {9, 2, 4},
		{3, 3, 1}, {4, 3, 2}, {9, 3, 2}, {10, 3, 3}, {5, 5, 1}, {6, 5, 2},
		{2, math.MaxInt, 1}, {300, math.MaxInt, 1}, {300, 300, 1}, {300, 299, 2}, {300, 2, 9}, {256, 2, 8},
	} {
		var l lists
		var want list
		for i := range c.lists {
			next := runs.Item{C: api.Cell{Row: "r", Ts: uint64(i)}, Pos: i}
			l = append(l, list{next})
			want = slices.Insert(want, 0, next)
		}
		allIs(t, l, c.width, want, c.passes)
		allIs(t, make(lists, c.lists), c.width, nil, c.passes)
	}
}

// P9.3: what is beaten in one pass may have beaten another in a pass ahead.
func TestAllKeepsTheGreatestPlace(t *testing.T) {
	x, y, z, twin := item("r", "x", 0), item("r", "y", 1), item("r", "z", 2), item("r", "twin", 2)
	allIs(t, lists{{x}, {y}, {z}}, 2, list{z}, 2)
	allIs(t, lists{{z}, {x}, {y}}, 2, list{z}, 2)
	allIs(t, lists{{x}, {twin}, {y}, {z}}, 2, list{twin}, 2)
	allIs(t, lists{{x}, {y}, {z}, {twin}}, 3, list{z}, 2)
}

// P9.4: the cells as they are, in the order of the list, whatever that is.
func TestCellsOfItems(t *testing.T) {
	for _, l := range []list{nil, {}} {
		if got := merge.Cells(l); len(got) != 0 {
			t.Errorf("Cells(%v) = %v", l, got)
		}
	}
	z := api.Cell{Row: "z", Col: "c", Ts: 1, Seq: 8, Val: "v"}
	a := api.Cell{Row: "a", Ts: 2, Del: true}
	if got := merge.Cells(list{{C: z, Pos: 3}, {C: a}, {C: z, Pos: -1}, {}}); !slices.Equal(got, []api.Cell{z, a, z, {}}) {
		t.Errorf("Cells = %v", got)
	}
}

// P9.4
func TestSortCountsPasses(t *testing.T) {
	l := merge.Cells(letters("gfedcba", 0))
	want := slices.Clone(l)
	slices.Reverse(want)
	for _, c := range []struct{ memory, width, passes int }{
		{1, 2, 3}, {2, 2, 2}, {3, 2, 2}, {4, 2, 1}, {6, 2, 1}, {7, 2, 0}, {8, 2, 0},
		{1, 3, 2}, {1, 6, 2}, {1, 7, 1}, {1, math.MaxInt, 1}, {math.MaxInt, math.MaxInt, 0},
	} {
		if got, n, e := merge.Sort(l, c.memory, c.width); e != api.OK || n != c.passes || !slices.Equal(got, want) {
			t.Errorf("Sort(l, %d, %d) = %v, %d, %d; want %v, %d", c.memory, c.width, got, n, e, want, c.passes)
		}
	}
	for _, none := range [][]api.Cell{nil, {}} {
		if got, n, e := merge.Sort(none, 1, 2); e != api.OK || n != 0 || len(got) != 0 {
			t.Errorf("Sort of none = %v, %d, %d", got, n, e)
		}
	}
}

// P9.4: runs.Make's error, or All's, also where there is nothing to sort.
func TestSortErrors(t *testing.T) {
	for _, l := range [][]api.Cell{nil, make([]api.Cell, 1), merge.Cells(letters("cba", 0))} {
		for _, c := range []struct{ memory, width int }{
			{0, 2}, {-1, 2}, {math.MinInt, math.MaxInt}, {1, 1}, {1, 0}, {math.MaxInt, -1}, {1, math.MinInt}, {0, 0}, {-1, -1},
		} {
			if got, n, e := merge.Sort(l, c.memory, c.width); e != api.ErrArg || n != 0 || len(got) != 0 {
				t.Errorf("Sort of %d cells, %d, %d = %v, %d, %d; want ErrArg", len(l), c.memory, c.width, got, n, e)
			}
		}
	}
}

// P9.4: cells that may not be stored are sorted like all others.
func TestSortTakesAnyCell(t *testing.T) {
	odd := api.Cell{Row: string(make([]byte, 300)), Ts: math.MaxUint64, Seq: math.MaxUint64, Del: true, Val: "v"}
	got, n, e := merge.Sort([]api.Cell{odd, {Val: "old"}, odd, {}}, 1, 2)
	if e != api.OK || n != 2 || !slices.Equal(got, []api.Cell{{}, odd}) {
		t.Errorf("Sort = %v, %d, %d", got, n, e)
	}
}
