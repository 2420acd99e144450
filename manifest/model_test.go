package manifest_test

import (
	"slices"
	"strings"
	"testing"

	"rickyard/api"
	"rickyard/manifest"
)

// dice are chance that comes again.
type dice uint64

func (d *dice) below(n int) int {
	*d = *d*6364136223846793005 + 1442695040888963407
	return int(uint64(*d) >> 33 % uint64(n))
}

// slowMay is P13.1, word by word.
func slowMay(f manifest.File) bool {
	switch {
	case f.Level != 0 && f.Level != 1 && f.Level != 2:
		return false
	case len(f.Name) == 0 || len(f.Name) >= 60:
		return false
	case len(f.Low) == 0 || len(f.Low) >= 41 || len(f.High) == 0 || len(f.High) >= 41:
		return false
	case strings.Compare(f.Low, f.High) == 1:
		return false
	}
	return f.Many > 0 && f.Many < 2001
}

// slowApply is P13.2, word by word, one kind behind the other.
func slowApply(s manifest.State, e manifest.Edit) (manifest.State, api.Errno) {
	for _, f := range e.Add {
		if !slowMay(f) {
			return manifest.State{}, api.ErrArg
		}
	}
	if e.Next < s.Next || e.Flushed < s.Flushed {
		return manifest.State{}, api.ErrArg
	}
	left := slices.Clone(s.Files)
	for _, name := range e.Del {
		many := len(left)
		left = slices.DeleteFunc(left, func(f manifest.File) bool { return f.Name == name })
		if len(left) == many {
			return manifest.State{}, api.ErrNone
		}
	}
	for _, f := range e.Add {
		for _, g := range left {
			if f.Name == g.Name {
				return manifest.State{}, api.ErrTwice
			}
		}
		left = append(left, f)
	}
	for i, f := range left {
		for _, g := range left[:i] {
			if f.Level == g.Level && f.Level > 0 && inCommon(f, g) {
				return manifest.State{}, api.ErrOrder
			}
		}
	}
	return manifest.State{Files: slowSorted(left), Next: e.Next, Flushed: e.Flushed}, api.OK
}

// inCommon looks for the row itself; if there is one, an end of a file is one too.
func inCommon(f, g manifest.File) bool {
	for _, row := range []string{f.Low, f.High, g.Low, g.High} {
		if f.Low <= row && row <= f.High && g.Low <= row && row <= g.High {
			return true
		}
	}
	return false
}

// slowSorted takes the least one out, again and again.
func slowSorted(l []manifest.File) []manifest.File {
	var out []manifest.File
	for len(l) > 0 {
		least := 0
		for i := range l {
			if ahead(l[i], l[least]) {
				least = i
			}
		}
		out = append(out, l[least])
		l = slices.Delete(l, least, least+1)
	}
	return out
}

func ahead(f, g manifest.File) bool {
	if f.Level != g.Level {
		return f.Level < g.Level
	}
	if f.Low != g.Low {
		return f.Low < g.Low
	}
	return f.Name < g.Name
}

// stepped applies e to s, and tells whether it was as the slow form has it.
func stepped(t *testing.T, s manifest.State, e manifest.Edit) (manifest.State, api.Errno) {
	t.Helper()
	want, wantWrong := slowApply(s, e)
	got, wrong := applied(t, s, e)
	if wrong != wantWrong || !sameState(got, want) {
		t.Fatalf("Apply(%v, %v) = %v, %d; want %v, %d", s, e, got, wrong, want, wantWrong)
	}
	if wrong != api.OK {
		return s, wrong
	}
	return got, wrong
}

// P13.1: each thing a little below, at, and above its limits.
func TestMayAsItsWords(t *testing.T) {
	texts := []string{"", "a", "b", strings.Repeat("b", 40), strings.Repeat("b", 41)}
	names := []string{"", "n", strings.Repeat("n", 59), strings.Repeat("n", 60)}
	for level := -2; level <= 4; level++ {
		for _, many := range []int{-1, 0, 1, 1999, 2000, 2001, 65537} {
			for _, low := range texts {
				for _, high := range texts {
					for _, name := range names {
						f := manifest.File{Level: level, Name: name, Low: low, High: high, Many: many}
						if got, want := manifest.May(f), slowMay(f); got != want {
							t.Errorf("May(%v) = %v", f, got)
						}
					}
				}
			}
		}
	}
}

// smallFiles has all files of three names, levels 0 and 1, and three rows, with those that have none.
func smallFiles() []manifest.File {
	var l []manifest.File
	for _, name := range strings.Fields("p q") {
		for level := range 2 {
			for _, low := range strings.Fields("a b c") {
				for _, high := range strings.Fields("a b c") {
					l = append(l, file(level, name, low, high))
				}
			}
		}
	}
	return l
}

// P13.2: all states of a file or two, and all edits that add one and take one away, or none.
func TestAllSmallEdits(t *testing.T) {
	files := smallFiles()
	errs := map[api.Errno]int{}
	for _, f := range files {
		for _, g := range files {
			for i, h := range files {
				for _, del := range [][]string{nil, {"p"}, {"q"}, {"r"}, {"p", "q"}} {
					// Each third state alone: all of them would take long.
					if (i+len(del))%3 == 0 {
						_, wrong := stepped(t, stateOf(f, g), editOf([]manifest.File{h}, del...))
						errs[wrong]++
					}
				}
			}
			_, wrong := stepped(t, stateOf(f), adding(g))
			errs[wrong]++
			_, wrong = stepped(t, stateOf(), adding(f, g))
			errs[wrong]++
		}
	}
	for _, e := range []api.Errno{api.OK, api.ErrArg, api.ErrNone, api.ErrTwice, api.ErrOrder} {
		if errs[e] == 0 {
			t.Errorf("no edit was answered by %d", e)
		}
	}
}

// anyFile may be wrong, but seldom.
func (d *dice) anyFile() manifest.File {
	rows := strings.Fields("a aa b c d dd e f g h i j k l m n o p q r s t u v w x y z")
	low := d.below(len(rows))
	high := min(low+d.below(4), len(rows)-1)
	f := file(d.below(3), "t"+strings.Fields("1 2 3 4 5 6 7 8 9 10 11 12")[d.below(12)], rows[low], rows[high])
	f.Many = 1 + d.below(api.MaxCells)
	switch d.below(40) {
	case 0:
		f.Level = 3
	case 1:
		f.Many = 0
	case 2:
		f.Low, f.High = "z", "a"
	}
	return f
}

func (d *dice) anyEdit(s manifest.State) manifest.Edit {
	e := manifest.Edit{Next: s.Next + uint64(d.below(3)), Flushed: s.Flushed + uint64(d.below(3))}
	for range d.below(3) {
		e.Add = append(e.Add, d.anyFile())
	}
	for range d.below(3) {
		if d.below(20) == 0 || len(s.Files) == 0 {
			e.Del = append(e.Del, "t99")
		} else {
			e.Del = append(e.Del, s.Files[d.below(len(s.Files))].Name)
		}
	}
	switch d.below(60) {
	case 0:
		e.Next = s.Next - 1
	case 1:
		e.Flushed = s.Flushed - 1
	}
	return e
}

// P13.2, P13.3: long rows of edits, one behind the other.
func TestLongRowsOfEdits(t *testing.T) {
	errs := map[api.Errno]int{}
	for seed := range 60 {
		d := dice(seed)
		s := manifest.State{}
		for range 150 {
			var wrong api.Errno
			s, wrong = stepped(t, s, d.anyEdit(s))
			errs[wrong]++
			looked(t, s, &d)
		}
	}
	for _, e := range []api.Errno{api.OK, api.ErrArg, api.ErrNone, api.ErrTwice, api.ErrOrder} {
		if errs[e] < 50 {
			t.Errorf("%d edits were answered by %d", errs[e], e)
		}
	}
}

// P13.2, P13.3: states of any files, in any order, that no edits made.
func TestAnyStates(t *testing.T) {
	for seed := range 2000 {
		d := dice(seed)
		s := stateOf()
		for range d.below(8) {
			f := d.anyFile()
			if d.below(4) == 0 {
				f.Low, f.High = f.High, f.Low
			}
			s.Files = append(s.Files, f)
		}
		stepped(t, s, d.anyEdit(s))
		stepped(t, s, editOf(nil))
		looked(t, s, &d)
	}
}

// looked holds Find and Over against P13.3, word by word.
func looked(t *testing.T, s manifest.State, d *dice) {
	t.Helper()
	f, level := d.anyFile(), d.below(4)
	row, low, high := f.Low, f.Low, f.High
	var found, over []manifest.File
	for _, f := range s.Files {
		if row >= f.Low && row <= f.High {
			found = append(found, f)
		}
		if f.Level == level && f.Low <= high && f.High >= low {
			over = append(over, f)
		}
	}
	was := copied(s)
	filesAre(t, "Find", manifest.Find(s, row), found...)
	filesAre(t, "Over", manifest.Over(s, level, low, high), over...)
	if !sameState(s, was) {
		t.Errorf("%v was %v", s, was)
	}
}
