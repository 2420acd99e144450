package runs_test

import (
	"slices"
	"testing"

	"rickyard/api"
	"rickyard/cell"
	"rickyard/runs"
)

// dice are numbers that are the same at each run.
type dice struct{ state uint64 }

func (d *dice) upTo(n int) int {
	d.state = d.state*6364136223846793005 + 1442695040888963407
	return int(d.state >> 33 % uint64(n))
}

// cells are of so few coordinates that many come twice; each has a value of its own.
func (d *dice) cells(n int) []api.Cell {
	names := []string{"a", "aa", "ab", "b", "\x00", "\xff"}
	var l []api.Cell
	for i := range n {
		l = append(l, api.Cell{
			Row: names[d.upTo(len(names))],
			Col: names[d.upTo(2)],
			Ts:  uint64(d.upTo(3)),
			Seq: uint64(d.upTo(3)),
			Del: d.upTo(4) == 0,
			Val: string(rune(i)),
		})
	}
	return l
}

// slowResolve is P8.2's words, one item held against all others.
func slowResolve(l []runs.Item) []runs.Item {
	var best []runs.Item
	for i, x := range l {
		beaten := false
		for j, y := range l {
			beaten = beaten || cell.Same(x.C, y.C) && (y.Pos > x.Pos || y.Pos == x.Pos && j < i)
		}
		if !beaten {
			best = append(best, x)
		}
	}
	sorted := make([]runs.Item, len(best))
	for _, x := range best {
		ahead := 0
		for _, y := range best {
			if runs.Cmp(y, x) < 0 {
				ahead++
			}
		}
		sorted[ahead] = x
	}
	return sorted
}

// P8.2: items whose places come in any order, and twice.
func TestResolveAgainstItsWords(t *testing.T) {
	d := &dice{3}
	for range 2000 {
		l := runs.Items(d.cells(d.upTo(60)))
		for i := range l {
			l[i].Pos = d.upTo(10) - 3
		}
		resolveIs(t, l, slowResolve(l)...)
		if resolved := runs.Resolve(l); !runs.Sorted(resolved) || runs.Sorted(l) != slices.Equal(l, resolved) {
			t.Errorf("Sorted(%v), or of its Resolve, is wrong", l)
		}
	}
}

// P8.4: a run has no coordinate twice; of all runs together Resolve is as of the whole input.
func TestRunsAreTheWholeInput(t *testing.T) {
	d := &dice{1}
	for range 300 {
		l := d.cells(d.upTo(120))
		want := slowResolve(runs.Items(l))
		for _, memory := range []int{1, 2, 3, 1 + d.upTo(60), len(l) + 1, 1 << 30} {
			made, e := runs.Make(l, memory)
			if e != api.OK || len(made) != (len(l)+memory-1)/memory {
				t.Fatalf("Make of %d cells, %d has %d runs, %d", len(l), memory, len(made), e)
			}
			for _, run := range made {
				noCoordinateTwice(t, run)
			}
			resolveIs(t, slices.Concat(made...), want...)
			// Places tell what came last, not the order of the runs.
			slices.Reverse(made)
			resolveIs(t, slices.Concat(made...), want...)
		}
	}
}

func noCoordinateTwice(t *testing.T, run []runs.Item) {
	t.Helper()
	if len(run) == 0 || !runs.Sorted(run) {
		t.Errorf("a run that is empty, or not sorted: %v", run)
	}
	for i, x := range run {
		for _, y := range run[i+1:] {
			if cell.Same(x.C, y.C) {
				t.Errorf("a run has %v, and %v", x, y)
			}
		}
	}
}

// What is handed in is not changed.
func TestArgumentsAreKept(t *testing.T) {
	d := &dice{5}
	l := d.cells(100)
	keptCells := slices.Clone(l)
	items := runs.Items(l)
	keptItems := slices.Clone(items)
	runs.Resolve(items)
	runs.Sorted(items)
	runs.Make(l, 7)
	if !slices.Equal(l, keptCells) || !slices.Equal(items, keptItems) {
		t.Error("an argument was changed")
	}
}

// Writing over an answer, or behind its end, changes no other list.
func TestAnswersAreNew(t *testing.T) {
	l := []api.Cell{cellAt("a", "c", 1), cellAt("b", "c", 1), cellAt("c", "c", 1), cellAt("d", "c", 1)}
	items := runs.Items(l)
	kept := slices.Clone(items)
	resolved := runs.Resolve(items)
	resolved[0] = runs.Item{}
	if !slices.Equal(items, kept) || l[0].Row != "a" {
		t.Errorf("the argument changed with the answer: %v", items)
	}

	made, _ := runs.Make(l, 2)
	clear(made[0])
	_ = append(made[0], runs.Item{Pos: 99}, runs.Item{Pos: 99})
	if !slices.Equal(made[1], kept[2:]) {
		t.Errorf("one run changed with another: %v", made[1])
	}
	makeIs(t, l, 2, kept[:2], kept[2:])
}
