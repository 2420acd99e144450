package manifest_test

import (
	"fmt"
	"strings"
	"testing"

	"rickyard/api"
	"rickyard/manifest"
)

// once tells a fault if a row is in two files of one level above 0.
func once(t *testing.T, s manifest.State, rows []string) {
	t.Helper()
	for _, row := range rows {
		many := map[int]int{}
		for _, f := range manifest.Find(s, row) {
			many[f.Level]++
		}
		for level, n := range many {
			if level > 0 && n > 1 {
				t.Fatalf("row %q is in %d files of level %d: %v", row, n, level, s)
			}
		}
		for level := 1; level < api.Levels; level++ {
			if n := len(manifest.Over(s, level, row, row)); n != many[level] {
				t.Fatalf("row %q is in %d files of level %d by Find, in %d by Over", row, many[level], level, n)
			}
		}
	}
}

// P13.5: whatever edits come, by their bytes, one behind the other, from an empty state on.
func TestRowsAreInOneFile(t *testing.T) {
	var rows []string
	for _, first := range strings.Split("abcdefghijklmnopqrstuvwxyz", "") {
		rows = append(rows, first, first+"\x00", first+first, first+"\xff")
	}
	for seed := range 40 {
		d := dice(seed)
		s := manifest.State{}
		for range 100 {
			e := d.anyEdit(s)
			bytes, wrong := manifest.Encode(e)
			if wrong != api.OK {
				applyFails(t, s, e, api.ErrArg)
				continue
			}
			back, wrong := manifest.Decode(bytes)
			if wrong != api.OK || !sameEdit(back, e) {
				t.Fatalf("%v comes back as %v, %d", e, back, wrong)
			}
			s, _ = stepped(t, s, back)
			once(t, s, rows)
		}
	}
}

// P13.5: as many files side by side as bytes of a count can tell.
func TestManyFilesSideBySide(t *testing.T) {
	var want, add []manifest.File
	for i := range 255 {
		want = append(want, file(1, fmt.Sprintf("t%06d", 254-i), fmt.Sprintf("r%03d", i), fmt.Sprintf("r%03d.z", i)))
	}
	for i := range want {
		add = append(add, want[i*7%255])
	}
	s := apply(t, stateOf(), adding(add...), want...)
	comesBack(t, adding(add...))
	for i, f := range want {
		filesAre(t, "Find", manifest.Find(s, f.Low+".a"), f)
		filesAre(t, "Find", manifest.Find(s, f.Low+".zz"))
		filesAre(t, "Over", manifest.Over(s, 1, f.Low, f.High), f)
		applyFails(t, s, adding(file(1, "x", f.High, f.High)), api.ErrOrder)
		applyFails(t, s, adding(file(1, f.Name, "x", "y")), api.ErrTwice)
		if i > 0 {
			applyFails(t, s, adding(file(1, "x", want[i-1].High+"z", f.Low)), api.ErrOrder)
		}
	}
}
