package runs_test

import (
	"math"
	"slices"
	"testing"

	"rickyard/api"
	"rickyard/runs"
)

func cellAt(row, col string, ts uint64) api.Cell {
	return api.Cell{Row: row, Col: col, Ts: ts}
}

func itemAt(row, col string, ts uint64, pos int) runs.Item {
	return runs.Item{C: cellAt(row, col, ts), Pos: pos}
}

// valued is an item of one coordinate, that is told from others by its value.
func valued(val string, pos int) runs.Item {
	return runs.Item{C: api.Cell{Row: "r", Col: "c", Ts: 5, Val: val}, Pos: pos}
}

func resolveIs(t *testing.T, l []runs.Item, want ...runs.Item) {
	t.Helper()
	if got := runs.Resolve(l); !slices.Equal(got, want) {
		t.Errorf("Resolve(%v) = %v; want %v", l, got, want)
	}
}

func makeIs(t *testing.T, l []api.Cell, memory int, want ...[]runs.Item) {
	t.Helper()
	got, e := runs.Make(l, memory)
	if e != api.OK || !slices.EqualFunc(got, want, slices.Equal[[]runs.Item]) {
		t.Errorf("Make(%v, %d) = %v, %d; want %v", l, memory, got, e, want)
	}
}

// inOrder has items each of which stands ahead of all that follow.
func inOrder() []runs.Item {
	return []runs.Item{
		itemAt("", "", 0, 0),
		itemAt("", "b", 7, 9),
		itemAt("\x00", "a", 0, 0),
		itemAt("A", "z", 9, 9),
		itemAt("a", "", 0, 0),
		itemAt("a", "b", math.MaxUint64, 0),
		itemAt("a", "b", math.MaxInt64+1, 3),
		itemAt("a", "b", math.MaxInt64, 2),
		itemAt("a", "b", 6, 0),
		itemAt("a", "b", 5, math.MaxInt),
		itemAt("a", "b", 5, 2),
		itemAt("a", "b", 5, 1),
		itemAt("a", "b", 5, 0),
		itemAt("a", "b", 5, -1),
		itemAt("a", "b", 5, math.MinInt),
		itemAt("a", "b", 0, 7),
		itemAt("a", "ba", 9, 9),
		itemAt("a", "c", 9, 9),
		itemAt("aa", "a", 9, 9),
		itemAt("ab", "", 9, 9),
		itemAt("b", "a", 9, 9),
		itemAt("\x7f", "a", 9, 9),
		itemAt("é", "a", 9, 9),
		itemAt("\xff", "a", 9, 9),
	}
}

// P8.1
func TestCmpOfAllPairs(t *testing.T) {
	l := inOrder()
	for i, a := range l {
		for j, b := range l {
			want := 0
			if i < j {
				want = -1
			} else if i > j {
				want = 1
			}
			if got := runs.Cmp(a, b); got != want {
				t.Errorf("Cmp(%v, %v) = %d; want %d", a, b, got, want)
			}
		}
	}
}

// P8.1: nothing else of a cell counts, its sequence neither.
func TestCmpLooksAtNothingElse(t *testing.T) {
	a, b := valued("a", 3), valued("b", 3)
	a.C.Seq, b.C.Seq = 1, math.MaxUint64
	b.C.Del = true
	if runs.Cmp(a, b) != 0 || runs.Cmp(b, a) != 0 {
		t.Errorf("Cmp(%v, %v) = %d", a, b, runs.Cmp(a, b))
	}
	a.Pos = 4
	if runs.Cmp(a, b) != -1 || runs.Cmp(b, a) != 1 {
		t.Errorf("Cmp(%v, %v) = %d", a, b, runs.Cmp(a, b))
	}
}

// P8.1: items are the cells as they are, in their order, also where they are alike.
func TestItemsHaveTheirPlaces(t *testing.T) {
	for _, l := range [][]api.Cell{nil, {}} {
		if got := runs.Items(l); len(got) != 0 {
			t.Errorf("Items(%v) = %v", l, got)
		}
	}
	z := api.Cell{Row: "z", Col: "c", Ts: 1, Seq: 8, Val: "v"}
	a := api.Cell{Row: "a", Col: "c", Ts: 2, Del: true}
	want := []runs.Item{{C: z, Pos: 0}, {C: a, Pos: 1}, {C: z, Pos: 2}, {Pos: 3}, {C: a, Pos: 4}}
	if got := runs.Items([]api.Cell{z, a, z, {}, a}); !slices.Equal(got, want) {
		t.Errorf("Items = %v; want %v", got, want)
	}
	for i, item := range runs.Items(make([]api.Cell, 300)) {
		if item.Pos != i {
			t.Errorf("item %d has place %d", i, item.Pos)
		}
	}
}

// P8.2
func TestResolveTakesTheGreatestPlace(t *testing.T) {
	resolveIs(t, nil)
	resolveIs(t, []runs.Item{})
	x, y, z := valued("x", 1), valued("y", 2), valued("z", 3)
	resolveIs(t, []runs.Item{x}, x)
	for _, l := range [][]runs.Item{{x, y, z}, {x, z, y}, {y, x, z}, {y, z, x}, {z, x, y}, {z, y, x}} {
		resolveIs(t, l, z)
	}
	low, none, high := valued("low", math.MinInt), valued("none", -1), valued("high", math.MaxInt)
	resolveIs(t, []runs.Item{low, none}, none)
	resolveIs(t, []runs.Item{none, x, low}, x)
	resolveIs(t, []runs.Item{low, high, z}, high)
}

// P8.2: of several of one place the first one of the list is it, whatever else they have.
func TestResolveTakesTheFirstOfOnePlace(t *testing.T) {
	a, b, c := valued("a", 4), valued("b", 4), valued("c", 4)
	b.C.Seq = 9
	c.C.Del = true
	for _, l := range [][]runs.Item{{a, b, c}, {a, c, b}, {b, a, c}, {b, c, a}, {c, a, b}, {c, b, a}} {
		resolveIs(t, l, l[0])
		resolveIs(t, slices.Concat([]runs.Item{valued("x", 3)}, l, []runs.Item{valued("y", 3)}), l[0])
		resolveIs(t, append(slices.Clone(l), valued("x", 5)), valued("x", 5))
	}

	// So many that a sort which does not keep the order would be seen.
	var many []runs.Item
	for i := range 300 {
		many = append(many, runs.Item{C: api.Cell{Row: string(rune('a' + i%3)), Col: "c", Seq: uint64(i)}, Pos: 7})
	}
	resolveIs(t, many, many[0], many[1], many[2])
}

// P8.2: one place does for several coordinates; a sequence, a value, or being gone, makes no other one.
func TestResolveGoesByCoordinate(t *testing.T) {
	other := []runs.Item{itemAt("b", "a", 1, 0), itemAt("a", "b", 1, 0), itemAt("a", "a", 1, 0), itemAt("a", "a", 2, 0), itemAt("ab", "", 1, 0), itemAt("", "ab", 1, 0)}
	resolveIs(t, other, other[5], other[3], other[2], other[1], other[4], other[0])

	value, gone := valued("v", 1), valued("", 2)
	value.C.Seq = 100
	gone.C.Del = true
	resolveIs(t, []runs.Item{value, gone}, gone)
	resolveIs(t, []runs.Item{gone, value}, gone)
	gone.Pos = 0
	resolveIs(t, []runs.Item{value, gone}, value)
}

// P8.2
func TestResolveSorts(t *testing.T) {
	l := inOrder()
	var want []runs.Item
	for _, item := range l {
		if item.C != cellAt("a", "b", 5) || item.Pos == math.MaxInt {
			want = append(want, item)
		}
	}
	resolveIs(t, l, want...)
	slices.Reverse(l)
	resolveIs(t, l, want...)
	resolveIs(t, want, want...)
}

// P8.2
func TestSortedByPairs(t *testing.T) {
	l := inOrder()
	for i, a := range l {
		for j, b := range l {
			alike := a.C == b.C
			if got := runs.Sorted([]runs.Item{a, b}); got != (i < j && !alike) {
				t.Errorf("Sorted(%v, %v) = %t", a, b, got)
			}
		}
	}
}

// P8.2: wherever in a list the fault stands.
func TestSortedOfAList(t *testing.T) {
	var good []runs.Item
	for i := range 20 {
		good = append(good, itemAt(string(rune('a'+i)), "c", 1, 100-i))
	}
	for n := range len(good) + 1 {
		if !runs.Sorted(good[:n]) {
			t.Errorf("Sorted of %d = false", n)
		}
	}
	if !runs.Sorted(nil) {
		t.Error("Sorted(nil) = false")
	}
	for i := range len(good) - 1 {
		turned := slices.Clone(good)
		turned[i], turned[i+1] = turned[i+1], turned[i]
		twice := slices.Insert(slices.Clone(good), i, good[i])
		later := slices.Insert(slices.Clone(good), i, good[i])
		later[i].Pos++
		later[i].C.Val = "other"
		for _, l := range [][]runs.Item{turned, twice, later} {
			if runs.Sorted(l) {
				t.Errorf("Sorted(%v) = true", l)
			}
		}
	}
}

// P8.3
func TestMakeWithoutMemory(t *testing.T) {
	for _, l := range [][]api.Cell{nil, {cellAt("a", "c", 1)}, make([]api.Cell, 300)} {
		for _, memory := range []int{0, -1, -2, -300, math.MinInt} {
			if got, e := runs.Make(l, memory); len(got) != 0 || e != api.ErrArg {
				t.Errorf("Make of %d cells, %d = %v, %d; want ErrArg", len(l), memory, got, e)
			}
		}
	}
}

// P8.3: how many runs there are, and how many items each has; the chapter's example is the second line.
func TestMakeInParts(t *testing.T) {
	for _, c := range []struct {
		cells, memory int
		sizes         []int
	}{
		{5, 1, []int{1, 1, 1, 1, 1}},
		{5, 2, []int{2, 2, 1}},
		{5, 3, []int{3, 2}},
		{5, 4, []int{4, 1}},
		{5, 5, []int{5}},
		{5, 6, []int{5}},
		{5, math.MaxInt, []int{5}},
		{6, 2, []int{2, 2, 2}},
		{1, 1, []int{1}},
		{1, math.MaxInt, []int{1}},
		{0, 1, nil},
		{0, math.MaxInt, nil},
		{300, 299, []int{299, 1}},
		{300, 100, []int{100, 100, 100}},
	} {
		var l []api.Cell
		for i := range c.cells {
			l = append(l, cellAt("r", "c", uint64(i)))
		}
		got, e := runs.Make(l, c.memory)
		var sizes []int
		for _, run := range got {
			sizes = append(sizes, len(run))
		}
		if e != api.OK || !slices.Equal(sizes, c.sizes) {
			t.Errorf("Make of %d cells, %d has sizes %v, %d; want %v", c.cells, c.memory, sizes, e, c.sizes)
		}
	}
}

// P8.3: parts are cut ahead of being resolved, and places are those of the whole input.
func TestMakeResolvesEachPart(t *testing.T) {
	old, young, other := cellAt("r", "c", 1), cellAt("r", "c", 1), cellAt("a", "c", 1)
	old.Val, young.Val = "old", "young"
	l := []api.Cell{old, other, young, other, other}
	makeIs(t, l, 1, []runs.Item{{old, 0}}, []runs.Item{{other, 1}}, []runs.Item{{young, 2}}, []runs.Item{{other, 3}}, []runs.Item{{other, 4}})
	makeIs(t, l, 2, []runs.Item{{other, 1}, {old, 0}}, []runs.Item{{other, 3}, {young, 2}}, []runs.Item{{other, 4}})
	makeIs(t, l, 3, []runs.Item{{other, 1}, {young, 2}}, []runs.Item{{other, 4}})
	makeIs(t, l, 4, []runs.Item{{other, 3}, {young, 2}}, []runs.Item{{other, 4}})
	makeIs(t, l, 5, []runs.Item{{other, 4}, {young, 2}})
	makeIs(t, l, math.MaxInt, []runs.Item{{other, 4}, {young, 2}})
	makeIs(t, nil, 3)
	makeIs(t, []api.Cell{}, 3)
}

// P8.3: cells that may not be stored are items like all others.
func TestMakeTakesAnyCell(t *testing.T) {
	odd := api.Cell{Row: string(make([]byte, 300)), Ts: math.MaxUint64, Seq: math.MaxUint64, Del: true, Val: "v"}
	makeIs(t, []api.Cell{odd, {}, odd}, 3, []runs.Item{{api.Cell{}, 1}, {odd, 2}})
}
