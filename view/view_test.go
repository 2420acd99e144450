package view_test

import (
	"math"
	"slices"
	"strings"
	"testing"

	"rickyard/api"
	"rickyard/cell"
	"rickyard/view"
)

type (
	list  = []api.Cell
	lists = [][]api.Cell
)

// end is the greatest sequence, and the greatest time.
const end = uint64(math.MaxUint64)

// of has cells of the row r and the column c, one for each word: time, sequence and value, each one
// byte, or time and sequence alone for one that is gone.
func of(words string) list {
	var l list
	for _, w := range strings.Fields(words) {
		c := api.Cell{Row: "r", Col: "c", Ts: uint64(w[0] - '0'), Seq: uint64(w[1] - '0'), Val: w[2:]}
		c.Del = c.Val == ""
		l = append(l, c)
	}
	return l
}

// at is l with another row, and another column.
func at(row, col string, l list) list {
	out := slices.Clone(l)
	for i := range out {
		out[i].Row, out[i].Col = row, col
	}
	return out
}

// cloned is l with lists of its own.
func cloned(l lists) lists {
	out := make(lists, len(l))
	for i := range l {
		out[i] = slices.Clone(l[i])
	}
	return out
}

// listed asks twice, and writes over the first answer: it tells faults if what was handed in
// changes, or if the second answer is another one.
func listed(t *testing.T, handed lists, ask func() list) list {
	t.Helper()
	before := cloned(handed)
	first := ask()
	got := slices.Clone(first)
	for i := range first[:cap(first)] {
		first[:cap(first)][i] = api.Cell{Row: "over"}
	}
	if !slices.EqualFunc(handed, before, slices.Equal[list]) {
		t.Errorf("%v has become %v", before, handed)
	}
	if again := ask(); !slices.Equal(again, got) {
		t.Errorf("%v answers %v, and then %v", before, got, again)
	}
	return got
}

func allIs(t *testing.T, l lists, at uint64, want ...api.Cell) {
	t.Helper()
	if got := listed(t, l, func() list { return view.All(l, at) }); !slices.Equal(got, want) {
		t.Errorf("All(%v, %d) = %v; want %v", l, at, got, want)
	}
}

func scanIs(t *testing.T, l lists, at uint64, from, to string, want ...api.Cell) {
	t.Helper()
	if got := listed(t, l, func() list { return view.Scan(l, at, from, to) }); !slices.Equal(got, want) {
		t.Errorf("Scan(%v, %d, %q, %q) = %v; want %v", l, at, from, to, got, want)
	}
}

// getIs asks for a cell that is there if want has one.
func getIs(t *testing.T, l lists, at uint64, row, col string, want ...api.Cell) {
	t.Helper()
	before := cloned(l)
	got, is := view.Get(l, at, row, col)
	if is != (len(want) > 0) || is && got != want[0] || !is && got != (api.Cell{}) {
		t.Errorf("Get(%v, %d, %q, %q) = %v, %v; want %v", l, at, row, col, got, is, want)
	}
	if !slices.EqualFunc(l, before, slices.Equal[list]) {
		t.Errorf("%v has become %v", before, l)
	}
}

func hiddenIs(t *testing.T, c api.Cell, l list, want bool) {
	t.Helper()
	before := slices.Clone(l)
	if view.Hidden(c, l) != want || !slices.Equal(l, before) {
		t.Errorf("Hidden(%v, %v) = %v", c, l, !want)
	}
}

func keepIs(t *testing.T, l list, floor uint64, last bool, want ...api.Cell) {
	t.Helper()
	got := listed(t, lists{l}, func() list { return view.Keep(l, floor, last) })
	if !slices.Equal(got, want) {
		t.Errorf("Keep(%v, %d, %v) = %v; want %v", l, floor, last, got, want)
	}
}

// P14.1: the cell of time 5 and sequence 5, or the one that is gone then.
func TestHidden(t *testing.T) {
	for _, own := range []string{"55v", "55"} {
		c := of(own)[0]
		for words, want := range map[string]bool{
			"":          false,
			"55v":       false,
			"55w":       false,
			"55":        false,
			"56w":       true,
			"56":        true,
			"54w":       false,
			"54":        false,
			"66w":       false,
			"66":        true,
			"65":        false,
			"64":        false,
			"96":        true,
			"95":        false,
			"46w":       false,
			"46":        false,
			"49 59w":    true,
			"66w 65 46": false,
			"99w 95 01": false,
			"99w 95 66": true,
			"66 95 99w": true,
		} {
			l := of(words)
			hiddenIs(t, c, l, want)
			hiddenIs(t, c, at("r", "d", l), false)
			hiddenIs(t, c, at("q", "c", l), false)
			hiddenIs(t, c, at("", "", l), false)
			hiddenIs(t, c, at("rc", "", l), false)
			hiddenIs(t, at("r", "d", list{c})[0], slices.Concat(at("r", "d", l), l), want)
		}
	}
}

// P14.1: numbers at their ends, and cells that may not be.
func TestHiddenAtTheEnds(t *testing.T) {
	hiddenIs(t, api.Cell{}, list{{Seq: 1}}, true)
	hiddenIs(t, api.Cell{}, list{{Seq: end}}, true)
	hiddenIs(t, api.Cell{Seq: end}, list{{Seq: end}, {Seq: 0}}, false)
	hiddenIs(t, api.Cell{Seq: end - 1}, list{{Seq: end}}, true)
	hiddenIs(t, api.Cell{Ts: end}, list{{Ts: end - 1, Seq: 1, Del: true}, {Seq: 1, Del: true}}, false)
	hiddenIs(t, api.Cell{Ts: end - 1}, list{{Ts: end, Seq: 1, Del: true}}, true)
	hiddenIs(t, api.Cell{Ts: 0}, list{{Ts: end, Seq: 1, Del: true}}, true)
	hiddenIs(t, api.Cell{Ts: 1 << 63}, list{{Ts: 1<<63 - 1, Seq: end, Del: true}}, false)
	hiddenIs(t, api.Cell{Ts: 3}, list{{Ts: 4, Seq: 1, Del: true, Val: "gone, with a value"}}, true)
	hiddenIs(t, api.Cell{Ts: 3}, list{{Ts: 4, Seq: 1}}, false)
	hiddenIs(t, api.Cell{Ts: 3}, list{{Ts: 3, Seq: 1}}, true)
}

// P14.2
func TestAll(t *testing.T) {
	allIs(t, nil, 9)
	allIs(t, lists{}, end)
	allIs(t, lists{nil, {}}, end)
	l := lists{of("53c 42d"), nil, of("61a 58b 41e"), of("00f")}
	for at, want := range map[uint64]string{
		0: "00f", 1: "61a 41e 00f", 2: "61a 42d 41e 00f", 3: "61a 53c 42d 41e 00f",
		7: "61a 53c 42d 41e 00f", 8: "61a 58b 53c 42d 41e 00f", end: "61a 58b 53c 42d 41e 00f",
	} {
		allIs(t, l, at, of(want)...)
	}
	// Those that are gone, and those that are hidden, are there too.
	allIs(t, lists{of("51a 52 53 94")}, 4, of("94 53 52 51a")...)
	// Rows, then columns, both by their bytes.
	rows := lists{at("b", "a", of("11x")), at("a", "b", of("11x")), at("a", "ab", of("11x")), at("a", "", of("11x")), at("", "z", of("11x")), at("\xff", "a", of("11x")), at("é", "a", of("11x"))}
	allIs(t, rows, 1, rows[4][0], rows[3][0], rows[2][0], rows[1][0], rows[0][0], rows[6][0], rows[5][0])
	allIs(t, rows, 0)
	// A number at its end is one like others.
	last := list{{Ts: 0, Seq: end}, {Ts: end, Seq: 0}, {Ts: end, Seq: end}}
	allIs(t, lists{last}, end, last[2], last[1], last[0])
	allIs(t, lists{last}, end-1, last[1])
}

// P14.2: of several that stand beside one another the first one, by lists, then by places.
func TestAllTakesTheFirstOne(t *testing.T) {
	for _, l := range []lists{
		{of("11a 11b 11")},
		{of("11a"), of("11b")},
		{nil, of("11a 11b"), of("11c")},
		{of("11a"), of("11"), of("11b 11c")},
		{of("12a 11a"), of("11 12b 12")},
		{of("11a 10"), of("12c 11b 12d")},
	} {
		for _, c := range view.All(l, 1) {
			if c.Seq == 1 && c.Val != "a" {
				t.Errorf("%v: %v", l, c)
			}
		}
	}
	allIs(t, lists{of("11"), of("11b")}, 1, of("11")...)
	// One that stands too high is none of several.
	allIs(t, lists{of("12a 11b"), of("11c 12d")}, 1, of("11b")...)
	allIs(t, lists{of("12a 11b"), of("11c 12d")}, 2, of("12a 11b")...)
	// Of many, each of which comes many times.
	var many list
	var want list
	for i := range 300 {
		many = append(many, api.Cell{Row: "r", Ts: uint64(i * 7 % 30), Val: string(rune('A' + i/30))})
	}
	for i := range 30 {
		want = append(want, api.Cell{Row: "r", Ts: uint64(29 - i), Val: "A"})
	}
	allIs(t, lists{many}, 0, want...)
	allIs(t, lists{many[:100], many[100:]}, 0, want...)
}

// P14.3: the chapter's example, and the document's fifth.
func TestExample(t *testing.T) {
	l := lists{of("71a 72 73b")}
	scanIs(t, l, 2, "", "")
	getIs(t, l, 2, "r", "c")
	scanIs(t, l, 3, "", "", of("73b")...)
	getIs(t, l, 3, "r", "c", of("73b")...)
	scanIs(t, l, 1, "", "", of("71a")...)
	scanIs(t, l, 0, "", "")
}

// P14.3
func TestScan(t *testing.T) {
	for words, want := range map[string]string{
		"":                    "",
		"51a":                 "51a",
		"51a 52b":             "52b",
		"51a 62b":             "62b 51a",
		"61a 52b":             "61a 52b",
		"51":                  "",
		"51a 52":              "",
		"52a 51":              "52a",
		"51a 62":              "",
		"52a 61":              "52a",
		"61a 52":              "61a",
		"61a 52 51b":          "61a",
		"51a 52b 53":          "",
		"51a 52 53b":          "53b",
		"41a 62 53b":          "53b",
		"43a 62 51b 91c":      "91c 43a",
		"91 82 73 64 55a 46b": "55a 46b",
		"91 82 73 64 53a 46b": "46b",
		"51a 51b":             "51a",
		"51 51b":              "",
		"51b 51":              "51b",
		// What is hidden by one that is hidden itself stays hidden.
		"51a 62 63":  "",
		"51a 62 63b": "63b",
	} {
		scanIs(t, lists{of(words)}, 9, "", "", of(want)...)
		scanIs(t, lists{of(words)}, end, "r", "r\x00", of(want)...)
		for i := range of(words) {
			scanIs(t, lists{of(words)[:i], of(words)[i:]}, 9, "", "", of(want)...)
		}
	}
}

// P14.3: what another column, or another row, has, hides nothing.
func TestScanOfManyColumns(t *testing.T) {
	gone := of("99")
	l := lists{at("a", "c", of("51a")), at("a", "d", gone), at("b", "c", gone), at("ac", "", gone), at("", "ac", gone), at("a", "b", gone), of("51b")}
	scanIs(t, l, end, "", "", slices.Concat(l[0], l[6])...)
	getIs(t, l, end, "a", "c", l[0]...)
	getIs(t, l, end, "a", "d")
	getIs(t, l, end, "b", "c")
	getIs(t, l, end, "", "ac")
	l = append(l, at("a", "c", gone))
	scanIs(t, l, end, "", "", l[6]...)
	scanIs(t, l, 8, "", "", slices.Concat(l[0], l[6])...)
}

// P14.3: rows that are at least from, and, if to is not "", below to.
func TestScanOfRows(t *testing.T) {
	var l lists
	rows := []string{"", "\x00", "a", "a\x00", "ab", "b", "\x7f", "\x80", "\xff", "\xff\xff"}
	for _, row := range rows {
		l = append(l, at(row, "c", of("51a")))
	}
	for i, from := range rows {
		for j, to := range rows {
			switch {
			case to == "":
				scanIs(t, l, 1, from, to, slices.Concat(l[i:]...)...)
			case j > i:
				scanIs(t, l, 1, from, to, slices.Concat(l[i:j]...)...)
			default:
				scanIs(t, l, 1, from, to)
			}
		}
		getIs(t, l, 1, from, "c", l[i]...)
		getIs(t, l, 1, from, "")
		getIs(t, l, 1, from+"_", "c")
	}
	scanIs(t, l, 1, "aa", "az", l[4]...)
	scanIs(t, l, 1, "b\x00", "", slices.Concat(l[6:]...)...)
	scanIs(t, l, 1, "\xff\xff\xff", "")
}

// P14.3
func TestGet(t *testing.T) {
	l := lists{of("51a 42b"), of("63 64c 75d"), at("r", "cc", of("81e")), at("r", "", of("86")), at("s", "c", of("81f"))}
	for at, want := range map[uint64]string{0: "", 1: "51a", 2: "51a", 3: "", 4: "64c", 5: "75d", 6: "75d", end: "75d"} {
		getIs(t, l, at, "r", "c", of(want)...)
	}
	getIs(t, l, end, "r", "cc", l[2]...)
	getIs(t, l, end, "r", "")
	getIs(t, l, end, "s", "c", l[4]...)
	getIs(t, l, end, "s", "cc")
	getIs(t, l, end, "", "")
	getIs(t, nil, end, "r", "c")
	// A row and a column may be "", though no cell may be so.
	none := lists{{{Ts: 1, Val: "a"}, {Ts: 2, Val: "b"}}}
	getIs(t, none, 0, "", "", none[0][1])
	scanIs(t, none, 0, "", "", none[0][1], none[0][0])
	// A later time that is gone says nothing of what came behind it, or with it.
	getIs(t, lists{of("98 59a")}, 9, "r", "c", of("59a")...)
	getIs(t, lists{of("98 58a")}, 9, "r", "c", of("58a")...)
	getIs(t, lists{of("98 57a")}, 9, "r", "c")
}

// P14.4: what lies below is kept unless one whose sequence is at most floor covers it.
func TestKeep(t *testing.T) {
	for _, c := range []struct {
		words string
		floor uint64
		want  string
		last  string
	}{
		{"", 9, "", ""},
		{"51a", 0, "51a", "51a"},
		{"51a", 9, "51a", "51a"},
		{"51", 0, "51", "51"},
		{"51", 1, "51", ""},
		{"51", 9, "51", ""},
		// Of a value by a value.
		{"53a 52b 51c", 0, "53a 52b 51c", "53a 52b 51c"},
		{"53a 52b 51c", 1, "53a 52b 51c", "53a 52b 51c"},
		{"53a 52b 51c", 2, "53a 52b", "53a 52b"},
		{"53a 52b 51c", 3, "53a", "53a"},
		{"53a 52b 51c", 9, "53a", "53a"},
		{"63a 52b", 9, "63a 52b", "63a 52b"},
		// Of a value by one that is gone.
		{"63 52a 51", 1, "63 52a 51", "63 52a"},
		{"63 52a 51", 2, "63 52a 51", "63 52a"},
		{"63 52a 51", 3, "63", ""},
		{"43 52a", 9, "52a 43", "52a"},
		{"52a 53", 3, "53", ""},
		{"52a 53", 2, "53 52a", "53 52a"},
		// One that is gone is covered just by one that is gone.
		{"53a 52 41b", 9, "53a 52", "53a"},
		{"53a 52 41b", 2, "53a 52", "53a"},
		{"53a 52 41b", 1, "53a 52 41b", "53a 52 41b"},
		{"63 52", 9, "63", ""},
		{"63 52", 3, "63", ""},
		{"63 52", 2, "63 52", "63"},
		{"63 52", 1, "63 52", "63 52"},
		{"53 52", 3, "53", ""},
		{"43 52", 9, "52 43", ""},
		// Not what has a greater sequence, nor the same one.
		{"62 53a 52b", 9, "62 53a", "53a"},
		{"62 53a 52b 41c", 2, "62 53a 52b", "53a 52b"},
		{"62 52a", 9, "62 52a", "52a"},
		{"62 53", 9, "62 53", ""},
		// What covers another one may be covered itself.
		{"63 52 41a", 9, "63", ""},
		{"54a 53b 52 41c", 9, "54a 52", "54a"},
		{"55 54a 53b 52 41c", 9, "55", ""},
		{"55 54a 53b 52 41c", 4, "55 54a 52", "55 54a"},
		// The first one of two that stand beside one another.
		{"51a 51", 9, "51a", "51a"},
		{"51 51a", 9, "51", ""},
		{"51 51a 52b", 9, "52b 51", "52b"},
		{"52b 51a 51", 9, "52b", "52b"},
	} {
		keepIs(t, of(c.words), c.floor, false, of(c.want)...)
		keepIs(t, of(c.words), c.floor, true, of(c.last)...)
	}
}

// P14.4: rows and columns are kept side by side, in order; a number at its end is one like others.
func TestKeepOfManyColumns(t *testing.T) {
	words := of("53 42a 51b")
	l := slices.Concat(words, at("r", "d", words), at("a", "z", words), at("", "", words), at("rc", "", of("42a")))
	kept := of("53")
	keepIs(t, l, 3, false, slices.Concat(at("", "", kept), at("a", "z", kept), kept, at("r", "d", kept), at("rc", "", of("42a")))...)
	keepIs(t, l, 3, true, at("rc", "", of("42a"))...)
	keepIs(t, nil, end, true)
	keepIs(t, list{}, end, false)
	last := list{{Ts: end, Seq: end, Del: true}, {Ts: end, Seq: end - 1}, {Ts: 0, Seq: 0}, {Ts: 0, Seq: 0, Del: true}}
	keepIs(t, last, end, false, last[0])
	keepIs(t, last, end, true)
	keepIs(t, last, end-1, false, last[:3]...)
	keepIs(t, last, end-1, true, last[:3]...)
	// One that is gone and has a value may not be, but is gone.
	odd := list{{Ts: 2, Seq: 2, Del: true, Val: "x"}, {Ts: 1, Seq: 1}}
	keepIs(t, odd, 2, false, odd[0])
	keepIs(t, odd, 2, true)
	scanIs(t, lists{odd}, 2, "", "")
}

// P14.2, P14.3, P14.4: as many cells of one coordinate, and of one row and column, as may be asked.
func TestManyCells(t *testing.T) {
	var times, versions, falling list
	for i := range 300 {
		times = append(times, api.Cell{Row: "r", Col: "c", Ts: uint64(300 - i), Seq: 1, Val: "v"})
		versions = append(versions, api.Cell{Row: "r", Col: "c", Ts: 1, Seq: uint64(300 - i), Val: "v"})
		falling = append(falling, api.Cell{Row: "r", Col: "c", Ts: uint64(300 - i), Seq: uint64(300 - i), Del: i%2 == 0})
	}
	scanIs(t, lists{times}, 1, "", "", times...)
	keepIs(t, times, 9, true, times...)
	scanIs(t, lists{versions}, 300, "", "", versions[0])
	scanIs(t, lists{versions}, 150, "", "", versions[150])
	keepIs(t, versions, 150, false, versions[:151]...)
	scanIs(t, lists{falling}, 300, "", "")
	scanIs(t, lists{falling}, 299, "", "", falling[1])
	keepIs(t, falling, 300, false, falling[0])
	keepIs(t, falling, 299, false, falling[0], falling[1], falling[2])
	keepIs(t, falling, 299, true, falling[0], falling[1])
	if !cell.Rising(view.All(lists{times, versions, falling}, end)) {
		t.Error("not in order")
	}
}
