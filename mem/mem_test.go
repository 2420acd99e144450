package mem_test

import (
	"math"
	"slices"
	"strings"
	"testing"

	"rickyard/api"
	"rickyard/cell"
	"rickyard/mem"
)

func cellAt(row, col string, ts, seq uint64) api.Cell {
	return api.Cell{Row: row, Col: col, Ts: ts, Seq: seq}
}

// of has a cell a word, whose row it is.
func of(rows string) []api.Cell {
	var l []api.Cell
	for _, row := range strings.Fields(rows) {
		l = append(l, cellAt(row, "c", 5, 1))
	}
	return l
}

func put(t *testing.T, m *mem.Table, cells ...api.Cell) {
	t.Helper()
	for _, c := range cells {
		if e := m.Put(c); e != api.OK {
			t.Errorf("Put(%v) = %d", c, e)
		}
	}
}

// tableOf is a table with cells put in one behind the other.
func tableOf(t *testing.T, cells ...api.Cell) *mem.Table {
	t.Helper()
	m := mem.New()
	put(t, m, cells...)
	return m
}

func putFails(t *testing.T, m *mem.Table, c api.Cell, want api.Errno) {
	t.Helper()
	l, many, bytes := m.Cells(), m.Many(), m.Bytes()
	if e := m.Put(c); e != want {
		t.Errorf("Put(%v) = %d; want the error %d", c, e, want)
	}
	// R6
	if !slices.Equal(m.Cells(), l) || m.Many() != many || m.Bytes() != bytes {
		t.Errorf("Put(%v) has changed the table", c)
	}
}

func bytesOf(t *testing.T, cells []api.Cell) int {
	t.Helper()
	n := 0
	for _, c := range cells {
		s, e := cell.Encode(c)
		if e != api.OK {
			t.Errorf("Encode(%v) = %d", c, e)
		}
		n += len(s)
	}
	return n
}

// holds tells faults unless m has want, in this order, and counts them well.
func holds(t *testing.T, m *mem.Table, want ...api.Cell) {
	t.Helper()
	if got := m.Cells(); !slices.Equal(got, want) {
		t.Errorf("Cells = %v; want %v", got, want)
	}
	if m.Many() != len(want) {
		t.Errorf("Many = %d; want %d", m.Many(), len(want))
	}
	if n := bytesOf(t, want); m.Bytes() != n {
		t.Errorf("Bytes = %d; want %d", m.Bytes(), n)
	}
}

func rowIs(t *testing.T, m *mem.Table, row string, want ...api.Cell) {
	t.Helper()
	if got := m.Row(row); !slices.Equal(got, want) {
		t.Errorf("Row(%q) = %v; want %v", row, got, want)
	}
}

func spanIs(t *testing.T, m *mem.Table, from, to string, want ...api.Cell) {
	t.Helper()
	if got := m.Span(from, to); !slices.Equal(got, want) {
		t.Errorf("Span(%q, %q) = %v; want %v", from, to, got, want)
	}
}

// P12.1, P12.2
func TestNewIsEmpty(t *testing.T) {
	m := mem.New()
	holds(t, m)
	rowIs(t, m, "r")
	rowIs(t, m, "")
	spanIs(t, m, "", "")
	spanIs(t, m, "a", "b")
}

// P12.1: a table knows nothing of another one.
func TestTablesAreApart(t *testing.T) {
	a, b := mem.New(), mem.New()
	l := of("r s")
	put(t, a, l...)
	holds(t, b)
	put(t, b, l[0])
	b.Clear()
	holds(t, a, l...)
}

// P12.1: the chapter's example.
func TestPutAgain(t *testing.T) {
	c := cellAt("r", "c", 5, 1)
	m := tableOf(t, c)
	putFails(t, m, c, api.ErrTwice)
	putFails(t, m, c, api.ErrTwice)
	holds(t, m, c)
}

// P12.1: what is gone, or has another value, stands beside it as well.
func TestPutBeside(t *testing.T) {
	c := api.Cell{Row: "r", Col: "c", Ts: 5, Seq: 1, Val: "v"}
	gone, other := c, c
	gone.Del, gone.Val = true, ""
	other.Val = "longer"
	for _, first := range []api.Cell{c, gone, other} {
		m := tableOf(t, first)
		for _, again := range []api.Cell{c, gone, other} {
			putFails(t, m, again, api.ErrTwice)
		}
		holds(t, m, first)
	}
}

// P12.1: cells that stand apart in one thing alone are all there.
func TestPutNearby(t *testing.T) {
	m := mem.New()
	want := []api.Cell{
		cellAt("r", "c", 6, 1),
		cellAt("r", "c", 5, 2),
		cellAt("r", "c", 5, 1),
		cellAt("r", "c", 5, 0),
		cellAt("r", "c", 4, 9),
		cellAt("r", "d", 5, 1),
		cellAt("rr", "c", 5, 1),
		cellAt("s", "c", 5, 1),
	}
	for _, i := range []int{2, 1, 3, 0, 4, 5, 6, 7} {
		put(t, m, want[i])
	}
	holds(t, m, want...)
	for _, c := range want {
		putFails(t, m, c, api.ErrTwice)
	}
}

// P12.1: a name and the next one are not read as one text.
func TestPutNamesThatJoinAlike(t *testing.T) {
	a, b := cellAt("a", "bc", 5, 1), cellAt("ab", "c", 5, 1)
	holds(t, tableOf(t, b, a), a, b)
}

// P12.1
func TestPutOfWhatMayNotBe(t *testing.T) {
	m := tableOf(t, of("m")...)
	long := strings.Repeat("x", api.MaxName+1)
	for _, c := range []api.Cell{
		{},
		{Row: "r"},
		{Col: "c"},
		{Row: "", Col: "c", Val: "v"},
		{Row: "r", Col: "", Val: "v"},
		{Row: long, Col: "c"},
		{Row: "r", Col: long},
		{Row: "r", Col: "c", Val: strings.Repeat("v", api.MaxValue+1)},
		{Row: "r", Col: "c", Del: true, Val: "v"},
	} {
		putFails(t, m, c, api.ErrArg)
	}
}

// P12.1: ErrArg is named ahead of ErrTwice (R2).
func TestPutOfWhatMayNotBeAndIsThere(t *testing.T) {
	c := api.Cell{Row: "r", Col: "c", Ts: 5, Seq: 1, Val: "v"}
	m := tableOf(t, c)
	c.Del = true
	putFails(t, m, c, api.ErrArg)
	c.Del, c.Val = false, strings.Repeat("v", api.MaxValue+1)
	putFails(t, m, c, api.ErrArg)
}

// P12.1, P12.2: at the limits cells are there, and no byte of a name is unlike others.
func TestPutAtTheLimits(t *testing.T) {
	name := strings.Repeat("\xff", api.MaxName)
	want := []api.Cell{
		{Row: "\x00", Col: "\x00", Ts: math.MaxUint64, Seq: math.MaxUint64, Del: true},
		{Row: "\x00", Col: "\x00", Ts: math.MaxUint64},
		{Row: "\x00", Col: "\x00", Seq: math.MaxUint64},
		{Row: "\x00", Col: "\x00"},
		{Row: "\n", Col: " ", Ts: 1 << 63, Val: "\x00"},
		{Row: "\n", Col: " ", Ts: 1<<63 - 1, Val: "\n"},
		{Row: name, Col: name, Val: strings.Repeat("\xff", api.MaxValue)},
	}
	m := mem.New()
	for _, c := range slices.Backward(want) {
		put(t, m, c)
	}
	holds(t, m, want...)
	rowIs(t, m, "\x00", want[:4]...)
	rowIs(t, m, name, want[6])
	rowIs(t, m, name+"\xff")
	spanIs(t, m, "\x00\x00", name, want[4:6]...)
	spanIs(t, m, name, name+"\x00", want[6])
}

// P12.1
func TestClear(t *testing.T) {
	m := mem.New()
	m.Clear()
	holds(t, m)
	l := of("a b c d e")
	put(t, m, l...)
	for range 2 {
		m.Clear()
		holds(t, m)
		rowIs(t, m, "c")
		spanIs(t, m, "", "")
	}
	put(t, m, l[3], l[1])
	putFails(t, m, l[1], api.ErrTwice)
	holds(t, m, l[1], l[3])
}

// P12.2
func TestRow(t *testing.T) {
	want := []api.Cell{
		cellAt("a", "c", 5, 1),
		cellAt("b", "c", 9, 1),
		cellAt("b", "c", 5, 3),
		cellAt("b", "c", 5, 1),
		cellAt("b", "d", 7, 1),
		cellAt("ba", "b", 5, 1),
		cellAt("c", "c", 5, 1),
	}
	m := tableOf(t, want[4], want[0], want[6], want[2], want[5], want[1], want[3])
	rowIs(t, m, "a", want[0])
	rowIs(t, m, "b", want[1:5]...)
	rowIs(t, m, "ba", want[5])
	rowIs(t, m, "c", want[6])
	for _, row := range []string{"", "A", "aa", "b\x00", "bb", "d", strings.Repeat("b", 300)} {
		rowIs(t, m, row)
	}
}

// P12.2
func TestSpan(t *testing.T) {
	l := of("b bb c d e")
	m := tableOf(t, l[2], l[4], l[0], l[3], l[1])
	for _, s := range []struct {
		from, to string
		want     []api.Cell
	}{
		{"", "", l},
		{"", "z", l},
		{"a", "", l},
		{"b", "", l},
		{"b\x00", "", l[1:]},
		{"e", "", l[4:]},
		{"e\x00", "", nil},
		{"z", "", nil},
		{"", "b", nil},
		{"", "b\x00", l[:1]},
		{"", "bb", l[:1]},
		{"", "e", l[:4]},
		{"", "ea", l},
		{"b", "d", l[:3]},
		{"ba", "cc", l[1:3]},
		{"c", "d", l[2:3]},
		{"ca", "d", nil},
		{"c", "c", nil},
		{"d", "b", nil},
		{"z", "a", nil},
		{"e", "\x00", nil},
	} {
		spanIs(t, m, s.from, s.to, s.want...)
	}
}

// P12.2: a span has whole rows.
func TestSpanHasWholeRows(t *testing.T) {
	var l []api.Cell
	for _, row := range strings.Fields("a b c d") {
		for _, col := range strings.Fields("p q r") {
			l = append(l, cellAt(row, col, 7, 1), cellAt(row, col, 5, 2), cellAt(row, col, 5, 1))
		}
	}
	m := mem.New()
	for i := range l {
		put(t, m, l[i*5%len(l)])
	}
	spanIs(t, m, "b", "d", l[9:27]...)
	spanIs(t, m, "b", "c", m.Row("b")...)
	spanIs(t, m, "d", "", m.Row("d")...)
}

// P12.2: bytes are counted by what each cell has, not by how many there are.
func TestBytes(t *testing.T) {
	m := mem.New()
	for i, step := range []struct {
		c    api.Cell
		want int
	}{
		{api.Cell{Row: "r", Col: "c"}, 22},
		{api.Cell{Row: "r", Col: "c", Ts: 5, Val: "abc"}, 25},
		{api.Cell{Row: "r", Col: "c", Ts: 6, Del: true}, 22},
		{api.Cell{Row: "row", Col: "column", Ts: math.MaxUint64, Seq: math.MaxUint64, Val: "v"}, 30},
	} {
		before := m.Bytes()
		put(t, m, step.c)
		if got := m.Bytes() - before; got != step.want {
			t.Errorf("cell %d has %d bytes; want %d", i, got, step.want)
		}
	}
}

// P12.2: who writes over an answer changes nothing (R4), and what is put later is not in it.
func TestAnswersAreNew(t *testing.T) {
	l := of("a b c")
	m := tableOf(t, l...)
	for _, ask := range []func() []api.Cell{
		m.Cells,
		func() []api.Cell { return m.Row("b") },
		func() []api.Cell { return m.Span("", "") },
		func() []api.Cell { return m.Span("b", "c") },
	} {
		first, second := ask(), ask()
		want := slices.Clone(first)
		for i := range first {
			first[i] = cellAt("z", "z", 9, 9)
		}
		if got := ask(); !slices.Equal(got, want) || !slices.Equal(second, want) {
			t.Errorf("behind a write there is %v; want %v", got, want)
		}
	}
	before := m.Cells()
	put(t, m, cellAt("a", "a", 5, 1), cellAt("z", "z", 5, 1))
	if !slices.Equal(before, l) {
		t.Errorf("an older answer is now %v", before)
	}
	m.Clear()
	if !slices.Equal(before, l) {
		t.Errorf("an older answer is now %v", before)
	}
}
