package mem

import (
	"slices"
	"testing"

	"rickyard/api"
)

func depth(n *node) int {
	if n == nil {
		return 0
	}
	return 1 + max(depth(n.left), depth(n.right))
}

// P12.3: in whatever order cells come, the tree stays flat.
func TestTheTreeStaysFlat(t *testing.T) {
	const many = 4096
	for name, ts := range map[string]func(i int) int{
		"rising":  func(i int) int { return many - i },
		"falling": func(i int) int { return i },
		"ends":    func(i int) int { return (i%2*2 - 1) * i },
		"leaps":   func(i int) int { return i * 1201 % many },
	} {
		m := New()
		for i := range many {
			m.Put(api.Cell{Row: "r", Col: "c", Ts: uint64(ts(i) + many)})
		}
		// At most two nodes a level, and half as many cells are left at each: 12 levels.
		if d := depth(m.root); m.many != many || d > 24 {
			t.Errorf("%s: %d cells are %d deep", name, m.many, d)
		}
	}
}

// P12.2: a stretch is left early, and gone through again.
func TestAStretchUpToABreak(t *testing.T) {
	m := New()
	for i := range 40 {
		m.Put(api.Cell{Row: "r", Col: "c", Ts: uint64(i * 7 % 40)})
	}
	all := m.Cells()
	for most := 1; most <= 40; most++ {
		stretch := m.root.stretch(func(api.Cell) int { return 0 })
		for range 2 {
			var got []api.Cell
			for c := range stretch {
				got = append(got, c)
				if len(got) == most {
					break
				}
			}
			if !slices.Equal(got, all[:most]) {
				t.Errorf("up to %d there is %v", most, got)
			}
		}
	}
}

// P12.2: few cells are asked where they stand.
func TestAStretchAsksFew(t *testing.T) {
	m := New()
	for i := range 1000 {
		m.Put(api.Cell{Row: "r", Col: "c", Ts: uint64(i)})
	}
	asked := 0
	for c := range m.root.stretch(func(c api.Cell) int {
		asked++
		return 500 - int(c.Ts)
	}) {
		if c.Ts != 500 {
			t.Errorf("%v is of the stretch", c)
		}
	}
	if asked > 40 {
		t.Errorf("%d cells were asked", asked)
	}
}
