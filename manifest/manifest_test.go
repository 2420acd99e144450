package manifest_test

import (
	"math"
	"slices"
	"strings"
	"testing"

	"rickyard/api"
	"rickyard/manifest"
)

func file(level int, name, low, high string) manifest.File {
	return manifest.File{Level: level, Name: name, Low: low, High: high, Many: 1}
}

// stateOf has counters that are neither 0 nor alike.
func stateOf(files ...manifest.File) manifest.State {
	return manifest.State{Files: files, Next: 7, Flushed: 3}
}

// editOf leaves the counters as stateOf has them.
func editOf(add []manifest.File, del ...string) manifest.Edit {
	return manifest.Edit{Add: add, Del: del, Next: 7, Flushed: 3}
}

func adding(files ...manifest.File) manifest.Edit {
	return editOf(files)
}

func sameState(s, u manifest.State) bool {
	return slices.Equal(s.Files, u.Files) && s.Next == u.Next && s.Flushed == u.Flushed
}

func copied(s manifest.State) manifest.State {
	s.Files = slices.Clone(s.Files)
	return s
}

// applied is Apply, held against R3 and R4.
func applied(t *testing.T, s manifest.State, e manifest.Edit) (manifest.State, api.Errno) {
	t.Helper()
	was, add, del := copied(s), slices.Clone(e.Add), slices.Clone(e.Del)
	u, wrong := manifest.Apply(s, e)
	if wrong != api.OK && !sameState(u, manifest.State{}) {
		t.Errorf("Apply(%v, %v) = %v beside the error %d", s, e, u, wrong)
	}
	if !sameState(s, was) || !slices.Equal(e.Add, add) || !slices.Equal(e.Del, del) {
		t.Errorf("Apply has changed %v, %v to %v, %v", was, add, s, e)
	}
	return u, wrong
}

// apply tells a fault unless what comes has the files want and e's counters.
func apply(t *testing.T, s manifest.State, e manifest.Edit, want ...manifest.File) manifest.State {
	t.Helper()
	u, wrong := applied(t, s, e)
	if wrong != api.OK || !slices.Equal(u.Files, want) || u.Next != e.Next || u.Flushed != e.Flushed {
		t.Errorf("Apply(%v, %v) = %v, %d; want %v", s, e, u, wrong, want)
	}
	return u
}

func applyFails(t *testing.T, s manifest.State, e manifest.Edit, want api.Errno) {
	t.Helper()
	if u, wrong := applied(t, s, e); wrong != want {
		t.Errorf("Apply(%v, %v) = %v, %d; want the error %d", s, e, u, wrong, want)
	}
}

func filesAre(t *testing.T, what string, got []manifest.File, want ...manifest.File) {
	t.Helper()
	if !slices.Equal(got, want) {
		t.Errorf("%s = %v; want %v", what, got, want)
	}
}

// limits has files that stand at a limit, each in one thing.
func limits() []manifest.File {
	row := strings.Repeat("r", api.MaxName)
	return []manifest.File{
		file(0, "t1", "a", "b"),
		file(1, "t1", "a", "b"),
		file(2, "t1", "a", "b"),
		file(0, "t", "a", "b"),
		file(0, strings.Repeat("t", 59), "a", "b"),
		file(0, "\x00", "a", "b"),
		file(0, "t1", "a", "a"),
		file(0, "t1", "\x00", "\xff"),
		file(0, "t1", row, row),
		file(0, "t1", "a", row),
		{Level: 0, Name: "t1", Low: "a", High: "b", Many: 2},
		{Level: 0, Name: "t1", Low: "a", High: "b", Many: 2000},
	}
}

// wrongs has files that may not be, each for one thing.
func wrongs() []manifest.File {
	row := strings.Repeat("r", api.MaxName+1)
	return []manifest.File{
		file(-1, "t1", "a", "b"),
		file(3, "t1", "a", "b"),
		file(256, "t1", "a", "b"),
		file(math.MinInt, "t1", "a", "b"),
		file(math.MaxInt, "t1", "a", "b"),
		file(0, "", "a", "b"),
		file(0, strings.Repeat("t", 60), "a", "b"),
		file(0, strings.Repeat("t", 257), "a", "b"),
		file(0, "t1", "", "b"),
		file(0, "t1", "a", ""),
		file(0, "t1", "", ""),
		file(0, "t1", row, "s"),
		file(0, "t1", "a", row),
		file(0, "t1", row, row),
		file(0, "t1", "b", "a"),
		file(0, "t1", "aa", "a"),
		{Level: 0, Name: "t1", Low: "a", High: "b", Many: 0},
		{Level: 0, Name: "t1", Low: "a", High: "b", Many: -1},
		{Level: 0, Name: "t1", Low: "a", High: "b", Many: 2001},
		{Level: 0, Name: "t1", Low: "a", High: "b", Many: 1 << 16},
		{},
	}
}

// P13.1
func TestMay(t *testing.T) {
	for _, f := range limits() {
		if !manifest.May(f) {
			t.Errorf("%v may not be", f)
		}
	}
}

// P13.1
func TestMayNot(t *testing.T) {
	for _, f := range wrongs() {
		if manifest.May(f) {
			t.Errorf("%v may be", f)
		}
	}
}

// P13.2: the chapter's example.
func TestApplyOfOneFileTwice(t *testing.T) {
	a := file(0, "a", "a", "b")
	applyFails(t, manifest.State{}, manifest.Edit{Add: []manifest.File{a, a}}, api.ErrTwice)
}

// P13.2
func TestApplyOfNothing(t *testing.T) {
	apply(t, manifest.State{}, manifest.Edit{})
	a := file(2, "a", "a", "b")
	apply(t, stateOf(a), editOf(nil), a)
	apply(t, stateOf(a), manifest.Edit{Next: 8, Flushed: 3}, a)
	apply(t, stateOf(a), manifest.Edit{Next: 7, Flushed: 4}, a)
	apply(t, stateOf(a), manifest.Edit{Next: math.MaxUint64, Flushed: math.MaxUint64}, a)
	apply(t, stateOf(a), editOf(nil, "a"))
}

// P13.2: files stand by their levels, then by Low, then by Name, wherever they came from.
func TestApplySorts(t *testing.T) {
	want := []manifest.File{
		file(0, "m", "a", "z"),
		file(0, "n", "a", "b"),
		file(0, "o", "a", "a"),
		file(0, "b", "aa", "z"),
		file(0, "a", "b", "c"),
		file(1, "d", "a", "b"),
		file(1, "c", "c", "d"),
		file(2, "f", "B", "B"),
		file(2, "e", "a", "z"),
	}
	backward := slices.Clone(want)
	slices.Reverse(backward)
	apply(t, stateOf(), adding(backward...), want...)
	apply(t, stateOf(backward...), editOf(nil), want...)
	for i := range want {
		apply(t, stateOf(backward[i:]...), adding(backward[:i]...), want...)
		apply(t, stateOf(backward[:i]...), adding(backward[i:]...), want...)
		s := apply(t, stateOf(want...), editOf(nil, want[i].Name), slices.Delete(slices.Clone(want), i, i+1)...)
		apply(t, s, adding(want[i]), want...)
	}
}

// P13.2
func TestApplyOfWrongFiles(t *testing.T) {
	good := file(0, "x", "a", "b")
	for _, f := range wrongs() {
		applyFails(t, stateOf(), adding(f), api.ErrArg)
		applyFails(t, stateOf(), adding(good, f), api.ErrArg)
		applyFails(t, stateOf(), adding(f, good), api.ErrArg)
	}
}

// P13.2
func TestApplyAtTheLimits(t *testing.T) {
	for _, f := range limits() {
		apply(t, stateOf(), adding(f), f)
	}
}

// P13.2
func TestApplyOfCountersThatFall(t *testing.T) {
	s := stateOf(file(0, "a", "a", "b"))
	for _, e := range []manifest.Edit{
		{},
		{Next: 6, Flushed: 3},
		{Next: 7, Flushed: 2},
		{Next: 6, Flushed: 4},
		{Next: 8, Flushed: 2},
		{Next: 0, Flushed: math.MaxUint64},
	} {
		applyFails(t, s, e, api.ErrArg)
	}
	s.Next, s.Flushed = math.MaxUint64, 1<<63
	applyFails(t, s, manifest.Edit{Next: math.MaxUint64 - 1, Flushed: 1 << 63}, api.ErrArg)
	applyFails(t, s, manifest.Edit{Next: math.MaxUint64, Flushed: 1<<63 - 1}, api.ErrArg)
}

// P13.2
func TestApplyOfNamesThatAreNone(t *testing.T) {
	a, b := file(1, "a", "a", "b"), file(1, "b", "c", "d")
	s := stateOf(a, b)
	for _, del := range []string{"c", "", "A", "aa", "a\x00", strings.Repeat("a", 300)} {
		applyFails(t, s, editOf(nil, del), api.ErrNone)
		applyFails(t, s, editOf(nil, "a", del), api.ErrNone)
		applyFails(t, s, editOf(nil, del, "a"), api.ErrNone)
		applyFails(t, stateOf(), editOf(nil, del), api.ErrNone)
	}
	applyFails(t, s, editOf(nil, "a", "a"), api.ErrNone)
	applyFails(t, s, editOf(nil, "a", "b", "a"), api.ErrNone)
	apply(t, s, editOf(nil, "b", "a"))
	// What e itself adds is none of s.
	c := file(1, "c", "e", "f")
	applyFails(t, s, editOf([]manifest.File{c}, "c"), api.ErrNone)
	applyFails(t, s, editOf([]manifest.File{a}, "a", "a"), api.ErrNone)
}

// P13.2: a state that was handed in may have a name more than once; all that have it go by it.
func TestApplyOfANameThatManyHave(t *testing.T) {
	a, b, c := file(0, "a", "a", "b"), file(0, "b", "a", "b"), file(2, "a", "a", "b")
	s := stateOf(a, b, c)
	apply(t, s, editOf(nil), a, b, c)
	apply(t, s, editOf(nil, "a"), b)
	apply(t, s, editOf([]manifest.File{a}, "a"), a, b)
	applyFails(t, s, editOf(nil, "a", "a"), api.ErrNone)
	applyFails(t, s, adding(a), api.ErrTwice)
}

// P13.2
func TestApplyOfNamesThatAreThere(t *testing.T) {
	a, b := file(1, "a", "a", "b"), file(1, "b", "c", "d")
	s := stateOf(a, b)
	for _, f := range []manifest.File{a, b, file(0, "a", "x", "y"), file(2, "b", "x", "y"), file(1, "a", "x", "y")} {
		applyFails(t, s, adding(f), api.ErrTwice)
		applyFails(t, s, adding(file(0, "c", "x", "y"), f), api.ErrTwice)
		applyFails(t, stateOf(), adding(f, file(0, "c", "x", "y"), f), api.ErrTwice)
		applyFails(t, stateOf(), adding(f, file(0, f.Name, "z", "z")), api.ErrTwice)
	}
	applyFails(t, s, editOf([]manifest.File{file(0, "b", "x", "y")}, "a"), api.ErrTwice)
	applyFails(t, s, editOf([]manifest.File{a, a}, "a"), api.ErrTwice)
}

// P13.2: what goes may come again, elsewhere too.
func TestApplyOfWhatGoesAndComes(t *testing.T) {
	a, b := file(1, "a", "a", "b"), file(1, "b", "c", "d")
	s := stateOf(a, b)
	apply(t, s, editOf([]manifest.File{a}, "a"), a, b)
	apply(t, s, editOf([]manifest.File{file(2, "a", "a", "d")}, "a"), b, file(2, "a", "a", "d"))
	apply(t, s, editOf([]manifest.File{file(1, "b", "a", "b"), file(1, "a", "c", "d")}, "a", "b"),
		file(1, "b", "a", "b"), file(1, "a", "c", "d"))
	apply(t, s, editOf([]manifest.File{file(1, "c", "a", "d")}, "a", "b"), file(1, "c", "a", "d"))
}

// P13.2
func TestApplyOfRowsInCommon(t *testing.T) {
	m := file(1, "m", "f", "k")
	for _, f := range []manifest.File{
		file(1, "x", "f", "k"),
		file(1, "x", "f", "f"),
		file(1, "x", "k", "k"),
		file(1, "x", "g", "h"),
		file(1, "x", "a", "f"),
		file(1, "x", "a", "g"),
		file(1, "x", "a", "z"),
		file(1, "x", "k", "z"),
		file(1, "x", "fa", "z"),
		file(1, "a", "a", "k"),
	} {
		applyFails(t, stateOf(m), adding(f), api.ErrOrder)
		applyFails(t, stateOf(f), adding(m), api.ErrOrder)
		applyFails(t, stateOf(), adding(f, m), api.ErrOrder)
		applyFails(t, stateOf(m, f), editOf(nil), api.ErrOrder)
		far := []manifest.File{file(1, "1", "A", "B"), file(1, "2", "zz", "zzz")}
		applyFails(t, stateOf(append(far, m)...), adding(f), api.ErrOrder)
		// Another level, and level 0, has rows of its own.
		other, low, lowM := f, f, m
		other.Level, low.Level, lowM.Level = 2, 0, 0
		apply(t, stateOf(m), adding(other), m, other)
		apply(t, stateOf(m), adding(low), low, m)
		if u, wrong := applied(t, stateOf(lowM), adding(low)); wrong != api.OK || len(u.Files) != 2 {
			t.Errorf("of level 0 %v and %v are %v, %d", lowM, low, u, wrong)
		}
		other.Name, m.Level = "x", 2
		applyFails(t, stateOf(m), adding(other), api.ErrOrder)
		m.Level = 1
	}
}

// P13.2: files that touch have no row in common.
func TestApplyOfRowsSideBySide(t *testing.T) {
	m := file(1, "m", "f", "k")
	apply(t, stateOf(m), adding(file(1, "x", "k\x00", "z")), m, file(1, "x", "k\x00", "z"))
	apply(t, stateOf(m), adding(file(1, "x", "a", "ezzz")), file(1, "x", "a", "ezzz"), m)
	apply(t, stateOf(m), adding(file(1, "x", "a", "e\xff")), file(1, "x", "a", "e\xff"), m)
	apply(t, stateOf(m), adding(file(1, "x", "ka", "ka"), file(1, "y", "kb", "kb")),
		m, file(1, "x", "ka", "ka"), file(1, "y", "kb", "kb"))
}

// P13.2: of files that go no row counts.
func TestApplyOfRowsOfFilesThatGo(t *testing.T) {
	m := file(1, "m", "f", "k")
	wide := file(1, "w", "a", "z")
	apply(t, stateOf(m), editOf([]manifest.File{wide}, "m"), wide)
	apply(t, stateOf(m, wide), editOf(nil, "w"), m)
	applyFails(t, stateOf(m, wide), editOf([]manifest.File{file(1, "x", "k", "k")}, "w"), api.ErrOrder)
}

// P13.2: a state that was handed in may have files that may not be.
func TestApplyOfWrongFilesThatAreThere(t *testing.T) {
	for _, f := range wrongs() {
		apply(t, stateOf(f), editOf(nil), f)
		if f.Name != "t1" {
			continue
		}
		apply(t, stateOf(f), editOf(nil, "t1"))
		applyFails(t, stateOf(f), adding(file(0, "t1", "x", "y")), api.ErrTwice)
	}
	// Without rows a file has none in common, and does not part others that have.
	none := file(1, "n", "d", "c")
	a, b := file(1, "a", "a", "z"), file(1, "b", "e", "f")
	apply(t, stateOf(none), adding(a), a, none)
	apply(t, stateOf(none), adding(file(1, "a", "d", "d")), file(1, "a", "d", "d"), none)
	applyFails(t, stateOf(none, a), adding(b), api.ErrOrder)
	// Levels above those that may be are above 0; those below are not.
	applyFails(t, stateOf(file(9, "p", "a", "b"), file(9, "q", "b", "c")), editOf(nil), api.ErrOrder)
	apply(t, stateOf(file(-1, "p", "a", "b"), file(-1, "q", "b", "c")), editOf(nil), file(-1, "p", "a", "b"), file(-1, "q", "b", "c"))
}

// P13.2: what is wrong is told by kinds, not by places (R2).
func TestApplyOfManyFaults(t *testing.T) {
	s := stateOf(file(1, "a", "a", "b"), file(1, "b", "c", "d"))
	bad := file(0, "x", "b", "a")
	twice := file(1, "b", "x", "y")
	crossing := file(1, "x", "a", "a")
	applyFails(t, s, editOf([]manifest.File{twice, crossing, bad}, "none"), api.ErrArg)
	applyFails(t, s, manifest.Edit{Add: []manifest.File{twice}, Del: []string{"none"}, Next: 6, Flushed: 3}, api.ErrArg)
	applyFails(t, s, manifest.Edit{Add: []manifest.File{twice}, Del: []string{"none"}, Next: 7}, api.ErrArg)
	applyFails(t, s, editOf([]manifest.File{crossing, twice}, "none"), api.ErrNone)
	applyFails(t, s, editOf([]manifest.File{crossing}, "b", "none"), api.ErrNone)
	applyFails(t, s, editOf([]manifest.File{crossing, twice}), api.ErrTwice)
	applyFails(t, s, editOf([]manifest.File{crossing}, "b"), api.ErrOrder)
}

// P13.2, R4: what was answered shares nothing with what was handed in.
func TestApplyAnswersNewMemory(t *testing.T) {
	a, b := file(0, "a", "a", "b"), file(0, "b", "b", "c")
	files, add := []manifest.File{a}, []manifest.File{b}
	for _, s := range []manifest.State{stateOf(files...), stateOf()} {
		for _, e := range []manifest.Edit{adding(), adding(add...)} {
			u, _ := applied(t, s, e)
			for i := range u.Files {
				u.Files[i].Name = "z"
			}
			if len(s.Files) > 0 && s.Files[0] != a || len(e.Add) > 0 && e.Add[0] != b {
				t.Errorf("writing over an answer has changed %v, %v", s, e)
			}
		}
	}
	// Nor does it write behind the list that was handed in.
	room := append(make([]manifest.File, 0, 8), a)
	apply(t, stateOf(room...), adding(add...), a, b)
	if behind := room[:2][1]; behind != (manifest.File{}) {
		t.Errorf("behind the list is %v", behind)
	}
}

// P13.3
func TestFind(t *testing.T) {
	a, b, c, d := file(0, "a", "b", "f"), file(0, "b", "d", "d"), file(1, "c", "a", "c"), file(2, "d", "e", "z")
	s := stateOf(a, b, c, d)
	for row, want := range map[string][]manifest.File{
		"":         nil,
		"A":        nil,
		"a":        {c},
		"b":        {a, c},
		"b\x00":    {a, c},
		"c":        {a, c},
		"c\x00":    {a},
		"d":        {a, b},
		"d\x00":    {a},
		"e":        {a, d},
		"f":        {a, d},
		"fa":       {d},
		"z":        {d},
		"z\x00":    nil,
		"\xff\xff": nil,
	} {
		filesAre(t, "Find "+row, manifest.Find(s, row), want...)
	}
	filesAre(t, "Find of none", manifest.Find(manifest.State{}, "a"))
}

// nothing is a file without anything.
var nothing manifest.File

// P13.3: in the order of s, whatever that is.
func TestFindInOrder(t *testing.T) {
	a, b, c := file(2, "a", "a", "z"), file(0, "b", "b", "z"), file(1, "c", "a", "b")
	filesAre(t, "Find", manifest.Find(stateOf(a, b, c, a), "b"), a, b, c, a)
	filesAre(t, "Over", manifest.Over(stateOf(a, b, c, a), 2, "b", "b"), a, a)
	filesAre(t, "Find", manifest.Find(stateOf(file(0, "n", "c", "a"), nothing), "b"))
	filesAre(t, "Find", manifest.Find(stateOf(nothing), ""), nothing)
}

// P13.3
func TestOver(t *testing.T) {
	a, b, c := file(1, "a", "b", "d"), file(1, "b", "f", "h"), file(1, "c", "k", "k")
	z := file(2, "z", "a", "z")
	s := stateOf(file(0, "y", "a", "z"), a, b, c, z)
	for _, x := range []struct {
		low, high string
		want      []manifest.File
	}{
		{"a", "a", nil},
		{"a", "b", []manifest.File{a}},
		{"", "b", []manifest.File{a}},
		{"b", "b", []manifest.File{a}},
		{"c", "c", []manifest.File{a}},
		{"d", "e", []manifest.File{a}},
		{"d\x00", "e", nil},
		{"d\x00", "ezz", nil},
		{"d", "f", []manifest.File{a, b}},
		{"e", "f", []manifest.File{b}},
		{"a", "z", []manifest.File{a, b, c}},
		{"g", "j", []manifest.File{b}},
		{"h", "k", []manifest.File{b, c}},
		{"i", "j", nil},
		{"k", "k", []manifest.File{c}},
		{"k\x00", "z", nil},
		{"", "", nil},
		// Its words look at the ends alone.
		{"g", "f", []manifest.File{b}},
		{"h", "f", []manifest.File{b}},
		{"i", "f", nil},
		{"z", "a", nil},
	} {
		filesAre(t, "Over from "+x.low+" to "+x.high, manifest.Over(s, 1, x.low, x.high), x.want...)
	}
	filesAre(t, "Over of 2", manifest.Over(s, 2, "c", "c"), z)
	for _, level := range []int{-1, 3, math.MaxInt} {
		filesAre(t, "Over of no level", manifest.Over(s, level, "a", "z"))
	}
	far := file(9, "f", "a", "b")
	filesAre(t, "Over of 9", manifest.Over(stateOf(far, a), 9, "b", "c"), far)
}

// P13.3, R4
func TestFindAnswersNewMemory(t *testing.T) {
	a, b := file(1, "a", "a", "b"), file(1, "b", "b", "c")
	s := stateOf(a, b)
	for _, l := range [][]manifest.File{manifest.Find(s, "b"), manifest.Over(s, 1, "a", "z")} {
		filesAre(t, "it", l, a, b)
		l[0], l[1] = nothing, nothing
		filesAre(t, "the state", s.Files, a, b)
	}
}
