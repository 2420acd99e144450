package parse_test

import (
	"regexp"
	"slices"
	"strconv"
	"strings"
	"testing"

	"rickyard/api"
	"rickyard/parse"
)

// dice are numbers that are the same at each run.
type dice struct{ state uint64 }

func (d *dice) upTo(n int) int {
	d.state = d.state*6364136223846793005 + 1442695040888963407
	return int(d.state >> 33 % uint64(n))
}

func (d *dice) word(most int) string {
	out := make([]byte, 1+d.upTo(most))
	for i := range out {
		out[i] = byte(33 + d.upTo(94))
	}
	return string(out)
}

// cell is one that may be told.
func (d *dice) cell() api.Cell {
	c := api.Cell{Row: d.word(40), Col: d.word(40)}
	if c.Row[0] == '#' {
		c.Row = "a" + c.Row[1:]
	}
	digits := 1 + d.upTo(18)
	for range digits {
		c.Ts = c.Ts*10 + uint64(d.upTo(10))
	}
	switch d.upTo(4) {
	case 0:
		c.Del = true
	case 1:
	default:
		c.Val = d.word(100)
	}
	return c
}

// P7.4: what was printed is told, also between lines that say nothing.
func TestWhatWasPrintedIsTold(t *testing.T) {
	d := &dice{1}
	for range 2000 {
		var l []api.Cell
		for range d.upTo(15) {
			l = append(l, d.cell())
		}
		s, e := parse.Print(l)
		if e != api.OK {
			t.Fatalf("Print(%v) = %d", l, e)
		}
		cellsAre(t, s, l...)
		cellsAre(t, strings.TrimSuffix(s, "\n"), l...)
		cellsAre(t, "\n#a\n"+strings.ReplaceAll(s, "\n", "\n\n# r c 5 =v\n"), l...)
	}
}

// P7.4: a line that says nothing changes no cell, and moves a wrong line's number by one.
func TestLinesThatSayNothingCountNothing(t *testing.T) {
	lines := []string{"r c 5 =v", "a b 0 -", "q q 7 ="}
	want, _, _ := parse.Cells(strings.Join(lines, "\n"))
	for at := range len(lines) + 1 {
		for _, nothing := range []string{"", "#", "# a note", "#r c 5 =v"} {
			more := slices.Insert(slices.Clone(lines), at, nothing)
			cellsAre(t, strings.Join(more, "\n"), want...)
			cellsFail(t, strings.Join(append(more, "x"), "\n"), 5, api.ErrLine)
		}
	}
}

// lineForm is the chapter's words of a line, as one pattern.
var lineForm = regexp.MustCompile(`\A([!-~]{1,40}) ([!-~]{1,40}) ([0-9]{1,18}) (-|=([!-~]{0,100}))\z`)

// slowCells is P7.2 by that pattern.
func slowCells(s string) ([]api.Cell, int, api.Errno) {
	var l []api.Cell
	for i, line := range strings.Split(s, "\n") {
		if line == "" || line[0] == '#' {
			continue
		}
		m := lineForm.FindStringSubmatch(line)
		if m == nil {
			return nil, i + 1, api.ErrLine
		}
		ts, _ := strconv.ParseUint(m[3], 10, 64)
		l = append(l, api.Cell{Row: m[1], Col: m[2], Ts: ts, Del: m[4] == "-", Val: m[5]})
	}
	return l, 0, api.OK
}

// P7.2: rows of bytes that are nearly lines, held against the pattern.
func TestCellsAgainstThePattern(t *testing.T) {
	d := &dice{7}
	const bytes = "  \n#-==059rc\x00\x7f\x80"
	good := 0
	for range 60000 {
		s := []byte("r c 5 =v\na b 1 -\n#a\nq " + strconv.Itoa(d.upTo(1000)) + " 7 =")
		for range d.upTo(3) {
			at, b := d.upTo(len(s)), bytes[d.upTo(len(bytes))]
			switch d.upTo(3) {
			case 0:
				s[at] = b
			case 1:
				s = slices.Insert(s, at, b)
			default:
				s = slices.Delete(s, at, at+1)
			}
		}
		want, line, wrong := slowCells(string(s))
		if wrong == api.OK {
			good++
		}
		if l, n, e := parse.Cells(string(s)); !slices.Equal(l, want) || n != line || e != wrong {
			t.Fatalf("Cells(%q) = %v, %d, %d; want %v, %d, %d", s, l, n, e, want, line, wrong)
		}
	}
	if good < 1000 || good > 59000 {
		t.Errorf("%d of the inputs are good: the inputs are too much alike", good)
	}
}

// P7.3, P7.4: Print takes just those cells that Cells can tell.
func TestPrintTakesWhatCellsTells(t *testing.T) {
	words := []string{"", "r", "#", "#r", "r#", "-", "=", "a b", "a\n", "\n", "\x7f", "é", strings.Repeat("r", 40), strings.Repeat("r", 41), strings.Repeat("r", 100), strings.Repeat("r", 101)}
	for _, row := range words {
		for _, col := range words {
			for _, val := range words {
				for _, ts := range []uint64{0, 999999999999999999, 1000000000000000000} {
					for _, del := range []bool{false, true} {
						c := api.Cell{Row: row, Col: col, Ts: ts, Del: del, Val: val}
						printTakes(t, c)
					}
				}
			}
		}
	}
}

func printTakes(t *testing.T, c api.Cell) {
	t.Helper()
	last := "=" + c.Val
	if c.Del {
		last = "-"
	}
	line := c.Row + " " + c.Col + " " + strconv.FormatUint(c.Ts, 10) + " " + last + "\n"
	if l, _, _ := slowCells(line); !slices.Equal(l, []api.Cell{c}) {
		printFails(t, c)
		return
	}
	printIs(t, line, c)
}

// Writing over what was answered, or after the call over what was handed in, changes nothing.
func TestAnswersAreNew(t *testing.T) {
	s := "r c 5 =v\na b 0 -\n"
	l, _, _ := parse.Cells(s)
	again, _, _ := parse.Cells(s)
	l[0], l[1] = api.Cell{}, api.Cell{}
	if !slices.Equal(again, []api.Cell{{Row: "r", Col: "c", Ts: 5, Val: "v"}, {Row: "a", Col: "b", Del: true}}) {
		t.Errorf("the second answer changed with the first: %v", again)
	}
	kept := slices.Clone(again)
	printIs(t, s, again...)
	if !slices.Equal(again, kept) {
		t.Errorf("Print changed what it was given: %v", again)
	}
}
