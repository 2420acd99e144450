package wal_test

import (
	"slices"
	"testing"

	"rickyard/api"
	"rickyard/vdisk"
	"rickyard/wal"
)

// step is an Append, or a Reset.
type step struct {
	reset bool
	texts []string
}

func (s step) take(l *wal.Log) api.Errno {
	if s.reset {
		return l.Reset(s.texts...)
	}
	return l.Append(s.texts...)
}

// behind is what a log of these texts has when the step is whole.
func (s step) behind(texts []string) []string {
	if s.reset {
		return s.texts
	}
	return slices.Concat(texts, s.texts)
}

// mayStay is whatever may be there of a log of these texts behind a step that was cut.
func (s step) mayStay(texts []string) [][]string {
	if s.reset {
		return [][]string{texts, s.texts}
	}
	var all [][]string
	for n := range len(s.texts) + 1 {
		all = append(all, slices.Concat(texts, s.texts[:n]))
	}
	return all
}

// take takes steps up to the first one that goes wrong: the texts that are there for sure, and all
// that may be.
func take(l *wal.Log, steps []step) ([]string, [][]string) {
	var sure []string
	for _, s := range steps {
		if s.take(l) != api.OK {
			return sure, s.mayStay(sure)
		}
		sure = s.behind(sure)
	}
	return sure, [][]string{sure}
}

func isOneOf(all [][]string, texts []string) bool {
	return slices.ContainsFunc(all, func(l []string) bool { return slices.Equal(l, texts) })
}

// rowsOfSteps is all rows of three of few steps.
func rowsOfSteps() [][]step {
	some := []step{
		{false, []string{"a"}},
		{false, nil},
		{false, []string{"bc", "", "d"}},
		{true, []string{"e", "f"}},
		{true, nil},
	}
	var rows [][]step
	for _, one := range some {
		for _, two := range some {
			for _, three := range some {
				rows = append(rows, []step{one, two, three})
			}
		}
	}
	return rows
}

// P11.3: wherever a crash cuts a row of steps, whatever it leaves.
func TestKeptBehindACut(t *testing.T) {
	for _, steps := range rowsOfSteps() {
		for n := 1; n <= 13; n++ {
			for keep := -1; keep <= 23; keep++ {
				d, l := logOf(t, room)
				d.Fuse(n, keep)
				sure, may := take(l, steps)
				if d.Up() {
					break
				}
				d.On()
				_, told, e := wal.Open(d, "w")
				if e != api.OK || !isOneOf(may, told) {
					t.Fatalf("%v, fuse %d, %d: %q, %d, sure %q", steps, n, keep, told, e, sure)
				}
				// What was told is kept, too.
				d.Crash(keep)
				d.On()
				open(t, d, told...)
			}
		}
	}
}

// P11.3: also if opening is cut, again and again.
func TestKeptBehindCutsOfOpen(t *testing.T) {
	for _, steps := range rowsOfSteps() {
		for n := 1; n <= 8; n++ {
			for start := range 10 {
				dice := dice(1000*n + start)
				d, l := logOf(t, room)
				d.Fuse(n, dice.below(30))
				_, may := take(l, steps)
				for range 4 {
					d.On()
					d.Fuse(1+dice.below(5), dice.below(30))
					if _, told, e := wal.Open(d, "w"); e == api.OK && !isOneOf(may, told) || e != api.OK && e != api.ErrOff {
						t.Fatalf("%v, fuse %d: %q, %d, may stay %q", steps, n, told, e, may)
					} else if e == api.OK {
						may = [][]string{told}
					}
				}
				d.On()
				if _, told, e := wal.Open(d, "w"); e != api.OK || !isOneOf(may, told) {
					t.Fatalf("%v, fuse %d: %q, %d, may stay %q", steps, n, told, e, may)
				}
			}
		}
	}
}

// P11.3: a log that goes on behind each crash has all that was OK.
func TestKeptBehindManyCrashes(t *testing.T) {
	for start := range 300 {
		dice := dice(start)
		d := vdisk.New(100000)
		var sure []string
		may := [][]string{nil}
		for range 30 {
			d.On()
			l, told, e := wal.Open(d, "w")
			if e != api.OK || !isOneOf(may, told) {
				t.Fatalf("start %d: %q, %d, may stay %q", start, told, e, may)
			}
			sure = told
			d.Fuse(1+dice.below(12), dice.below(70)-2)
			for range 12 {
				s := step{dice.below(5) == 0, dice.texts()}
				may = s.mayStay(sure)
				if s.take(l) != api.OK {
					break
				}
				sure = s.behind(sure)
			}
			if d.Up() {
				t.Fatal(start, "the fuse was not reached")
			}
		}
	}
}

// P11.3: of an Append that was cut each beginning can be what stays, no more and no less.
func TestEachBeginningCanStay(t *testing.T) {
	s := step{false, []string{"one", "", "three"}}
	bytes := len(bytesOf(t, s.texts...))
	for keep := range bytes + 1 {
		d, l := logOf(t, room, "a")
		d.Fuse(1, keep)
		want(t, "Append", s.take(l), api.ErrOff)
		d.On()
		stay := 0
		for stay < len(s.texts) && len(bytesOf(t, s.texts[:stay+1]...)) <= keep {
			stay++
		}
		open(t, d, slices.Concat([]string{"a"}, s.texts[:stay])...)
	}
}

// P11.3: an Append that did not fit is not there behind a crash either.
func TestWhatDidNotFitIsNotThere(t *testing.T) {
	for what, x := range changes() {
		d, l := logOf(t, 20, "a")
		want(t, what, x.call(l, "b", "123456"), api.ErrFull)
		d.Crash(7)
		d.On()
		open(t, d, "a")
	}
}
