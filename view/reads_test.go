package view_test

import (
	"fmt"
	"slices"
	"strings"
	"testing"

	"rickyard/api"
	"rickyard/cell"
	"rickyard/view"
)

// different is l with the first one alone of cells that stand beside one another, in l's order.
func different(l list) list {
	var out list
	for _, c := range l {
		if !slices.ContainsFunc(out, func(d api.Cell) bool { return cell.Cmp(c, d) == 0 }) {
			out = append(out, c)
		}
	}
	return out
}

// readAlike tells a fault if a and b are not read alike at a sequence of ats that is at least floor.
func readAlike(t *testing.T, a, b lists, floor uint64, ats []uint64) {
	t.Helper()
	for _, at := range ats {
		if at < floor {
			continue
		}
		want := view.Scan(a, at, "", "")
		if got := view.Scan(b, at, "", ""); !slices.Equal(got, want) {
			t.Fatalf("at %d %v is read as %v; %v as %v", at, a, want, b, got)
		}
		for _, c := range slices.Concat(a...) {
			x, isX := view.Get(a, at, c.Row, c.Col)
			y, isY := view.Get(b, at, c.Row, c.Col)
			if x != y || isX != isY {
				t.Fatalf("at %d %v has %v, %v; %v has %v, %v", at, a, x, isX, b, y, isY)
			}
		}
	}
}

// keptAlike tells faults if what is kept of l, at each floor of ats, is read otherwise than l, alone
// or above older.
func keptAlike(t *testing.T, l, older list, ats []uint64) {
	t.Helper()
	for _, floor := range ats {
		kept := view.Keep(l, floor, false)
		readAlike(t, lists{l}, lists{kept}, floor, ats)
		readAlike(t, lists{l, older}, lists{kept, older}, floor, ats)
		readAlike(t, lists{l}, lists{view.Keep(l, floor, true)}, floor, ats)
	}
}

// P14.5: each choice of cells of two times, above each two of the same times that are older.
func TestKeptIsReadAlike(t *testing.T) {
	cells := of("51a 52b 53 61c 62 63d")
	older := of("50x 60y 50 60 40z")
	ats := []uint64{0, 1, 2, 3, 4, end}
	for which := range 1 << len(cells) {
		var l list
		for i, c := range cells {
			if which>>i&1 == 1 {
				l = append(l, c)
			}
		}
		for i := range older {
			for j := range older {
				keptAlike(t, l, list{older[i], older[j]}, ats)
			}
		}
	}
}

// P14.5: long lists, also kept once more, at a later floor.
func TestLongListsAreReadAlike(t *testing.T) {
	rows, cols := strings.Fields("a b"), strings.Fields("c d")
	ats := []uint64{20, 21, 24, 27, 30, 31, end - 1, end}
	for seed := range 12 {
		d := dice(seed)
		l := different(d.cells(d.below(80), 2+d.below(6), rows, cols))
		for i := range l {
			// All of these are above 12, that is above the older ones.
			if l[i].Seq < 12 {
				l[i].Seq += 20
			}
		}
		older := slices.DeleteFunc(d.cells(d.below(80), 2+d.below(6), rows, cols), func(c api.Cell) bool {
			return c.Seq >= 12
		})
		keptAlike(t, l, older, ats)
		for i, floor := range ats {
			for _, next := range ats[i:] {
				twice := view.Keep(view.Keep(l, floor, false), next, false)
				readAlike(t, lists{l, older}, lists{twice, older}, next, ats)
				if once := view.Keep(l, next, false); !slices.Equal(twice, once) {
					t.Fatalf("of %v %v is kept at %d, but %v at %d and then %d", l, once, next, twice, floor, next)
				}
			}
		}
	}
}

// P14.5: however cells lie in lists, and in whatever order, they are read alike, and kept alike.
func TestListsCountNothing(t *testing.T) {
	rows, cols := strings.Fields("a b c"), strings.Fields("c d")
	ats := []uint64{0, 3, 6, 11, end - 1, end}
	for seed := range 40 {
		d := dice(seed)
		l := different(d.cells(d.below(80), 2+d.below(6), rows, cols))
		for range 5 {
			turned := slices.Clone(l)
			for i := range turned {
				j := i + d.below(len(turned)-i)
				turned[i], turned[j] = turned[j], turned[i]
			}
			readAlike(t, lists{l}, d.dealt(turned, 1+d.below(6)), 0, ats)
			for _, floor := range ats {
				for _, last := range []bool{false, true} {
					if a, b := view.Keep(l, floor, last), view.Keep(turned, floor, last); !slices.Equal(a, b) {
						t.Fatalf("of %v %v is kept at %d, of %v %v", l, a, floor, turned, b)
					}
				}
			}
		}
	}
}

// P14.5: what is kept at a floor keeps a file small, but nothing of what is read later goes.
func TestManyVersionsAreKeptOnce(t *testing.T) {
	var l list
	for i := range 300 {
		l = append(l, api.Cell{Row: "r", Col: fmt.Sprint(i % 3), Ts: uint64(i / 100), Seq: uint64(i), Val: fmt.Sprint(i)})
	}
	if kept := view.Keep(l, 299, true); len(kept) != 9 {
		t.Errorf("%d are kept", len(kept))
	}
	if kept := view.Keep(l, 149, true); len(kept) != 3+3+150 {
		t.Errorf("%d are kept", len(kept))
	}
	readAlike(t, lists{l}, lists{view.Keep(l, 149, true)}, 149, []uint64{149, 150, 200, 299, end})
}
