package table_test

import (
	"math"
	"slices"
	"strconv"
	"strings"
	"testing"

	"rickyard/api"
	"rickyard/block"
	"rickyard/bloom"
	"rickyard/crc"
	"rickyard/table"
)

const most = math.MaxUint64

// numbered is n cells that rise, in rows of three cells each, the values with the places.
func numbered(n int) []api.Cell {
	l := make([]api.Cell, n)
	for i := range l {
		l[i] = api.Cell{Row: "row" + strconv.Itoa(1000+i/3), Col: "c", Ts: uint64(5 - i%3), Seq: uint64(i), Val: strconv.Itoa(i)}
	}
	return l
}

// mixed is cells that rise, with names, times and values of all kinds.
func mixed() []api.Cell {
	n40, z40 := strings.Repeat("n", 40), strings.Repeat("\x00", 40)
	return []api.Cell{
		{Row: "\x00", Col: "c", Ts: 3, Val: "\x00"},
		{Row: z40, Col: z40, Ts: most, Seq: most},
		{Row: z40, Col: z40, Ts: most, Seq: most - 1, Val: strings.Repeat("v", 100)},
		{Row: z40, Col: z40, Ts: most, Seq: 0, Del: true},
		{Row: z40, Col: z40, Ts: 0, Seq: 0, Val: "x"},
		{Row: "a", Col: "\x00\xff", Ts: 1},
		{Row: "a", Col: "c", Ts: 2, Seq: 1, Val: "x"},
		{Row: "a", Col: "c", Ts: 2, Seq: 0, Val: "x"},
		{Row: "a", Col: "c", Ts: 1, Seq: 9, Del: true},
		{Row: "a", Col: "c", Ts: 0, Seq: 9, Val: strings.Repeat("\xff", 99)},
		{Row: "a", Col: "ca"},
		{Row: "ab", Col: "c", Ts: 256},
		{Row: n40, Col: "c"},
		{Row: n40, Col: n40, Ts: 7, Seq: 7, Val: "\n"},
		{Row: n40, Col: n40, Ts: 7, Seq: 6, Val: "é"},
		{Row: n40, Col: n40, Ts: 6, Seq: 8},
		{Row: "\xff", Col: "\xff", Ts: most, Del: true},
		{Row: "\xff\xff", Col: "\x00"},
	}
}

// oneRow is n cells of one row.
func oneRow(n int) []api.Cell {
	l := make([]api.Cell, n)
	for i := range l {
		l[i] = api.Cell{Row: "r", Col: "c", Ts: uint64(n - i), Val: strconv.Itoa(i)}
	}
	return l
}

func lists() [][]api.Cell {
	all := [][]api.Cell{mixed(), oneRow(1), oneRow(8), oneRow(25), numbered(300), numbered(2000)}
	for n := 1; n < 34; n++ {
		all = append(all, numbered(n))
	}
	for n := range mixed() {
		all = append(all, mixed()[n:])
	}
	return all
}

func sequences() []uint64 {
	return []uint64{0, 1, 255, 256, 300, 1 << 32, 0x0102030405060708, most}
}

func low(n uint64, many int) string {
	var s []byte
	for range many {
		s = append(s, byte(n%256))
		n /= 256
	}
	return string(s)
}

func put(t *testing.T, text string) string {
	t.Helper()
	s, e := crc.Put(text)
	if e != api.OK {
		t.Fatalf("Put of %d bytes: %v", len(text), e)
	}
	return s
}

// file is the parts of a file, as bytes, whatever they say.
type file struct {
	blocks        []string
	index, filter string
	foot          string
}

func (f file) bytes(t *testing.T) string {
	t.Helper()
	s := ""
	for _, b := range f.blocks {
		s += put(t, b)
	}
	return s + put(t, f.index) + put(t, f.filter) + put(t, f.foot)
}

func slowFoot(t *testing.T, f file, seq uint64) string {
	t.Helper()
	all := 0
	for _, b := range f.blocks {
		all += len(put(t, b))
	}
	return low(uint64(all), 4) + low(uint64(len(f.index)+6), 4) + low(uint64(len(f.filter)+6), 4) + low(seq, 8)
}

func slowIndex(blocks []string) string {
	s := low(uint64(len(blocks)), 2)
	for _, b := range blocks {
		s += low(uint64(len(b)+6), 4)
	}
	return s
}

func slowRows(l []api.Cell) []string {
	var rows []string
	for _, c := range l {
		if !slices.Contains(rows, c.Row) {
			rows = append(rows, c.Row)
		}
	}
	return rows
}

// slowFile is the document's parts of cells, with so many of them in the blocks one by one.
func slowFile(t *testing.T, l []api.Cell, seq uint64, sizes ...int) file {
	t.Helper()
	var f file
	left := l
	for _, n := range sizes {
		b, e := block.Build(left[:n])
		if e != api.OK {
			t.Fatalf("a block of %d cells: %v", n, e)
		}
		f.blocks = append(f.blocks, b)
		left = left[n:]
	}
	f.index = slowIndex(f.blocks)
	f.filter, _ = bloom.Make(slowRows(l), 10)
	f.foot = slowFoot(t, f, seq)
	return f
}

// eights is the sizes of the blocks of n cells.
func eights(n int) []int {
	var sizes []int
	for ; n > 8; n -= 8 {
		sizes = append(sizes, 8)
	}
	return append(sizes, n)
}

func mustBuild(t *testing.T, l []api.Cell, seq uint64) string {
	t.Helper()
	s, e := table.Build(l, seq)
	if e != api.OK {
		t.Fatalf("Build of %d cells: %v", len(l), e)
	}
	return s
}

func mustOpen(t *testing.T, s string) *table.Table {
	t.Helper()
	x, e := table.Open(s)
	if e != api.OK || x == nil {
		t.Fatalf("Open of %d bytes: %v", len(s), e)
	}
	return x
}

// stamped is the document's cells of a file with that sequence.
func stamped(l []api.Cell, seq uint64) []api.Cell {
	l = slices.Clone(l)
	for i := range l {
		if seq != 0 {
			l[i].Seq = seq
		}
	}
	return l
}

// P5.1
func TestBuildToTheByte(t *testing.T) {
	b := "\x01" + "\x00\x00\x16\x00" + "r\x00\x01c\x00\x01" + strings.Repeat("\xff", 7) + "\xfe" + strings.Repeat("\xff", 7) + "\xfd" + "\x00" + "\x01v"
	if len(b) != 30 {
		t.Fatal(len(b))
	}
	filter, _ := bloom.Make([]string{"r"}, 10)
	want := put(t, b) +
		put(t, "\x01\x00"+"\x24\x00\x00\x00") +
		put(t, filter) +
		put(t, "\x24\x00\x00\x00"+"\x0c\x00\x00\x00"+"\x0e\x00\x00\x00"+"\x2c\x01\x00\x00\x00\x00\x00\x80")
	if s := mustBuild(t, []api.Cell{{Row: "r", Col: "c", Ts: 1, Seq: 2, Val: "v"}}, 1<<63+300); s != want {
		t.Errorf("%q, want %q", s, want)
	}
}

// P5.1
func TestBuildByTheRule(t *testing.T) {
	for _, l := range lists() {
		for _, seq := range sequences() {
			if s, want := mustBuild(t, l, seq), slowFile(t, l, seq, eights(len(l))...).bytes(t); s != want {
				t.Errorf("%d cells, sequence %d: %q, want %q", len(l), seq, s, want)
			}
		}
	}
}

// P5.1
func TestBuildOfNone(t *testing.T) {
	for _, l := range [][]api.Cell{nil, {}} {
		for _, seq := range sequences() {
			if s, e := table.Build(l, seq); s != "" || e != api.ErrArg {
				t.Errorf("sequence %d: %q, %v", seq, s, e)
			}
		}
	}
}

// P5.1: some of the cells may not be, or do not rise, but ErrWide is the one named first.
func TestBuildOfTooMany(t *testing.T) {
	for _, l := range [][]api.Cell{numbered(2001), numbered(2100), make([]api.Cell, 2001), oneRow(4000)} {
		if s, e := table.Build(l, 1); s != "" || e != api.ErrWide {
			t.Errorf("%d cells: %d bytes, %v", len(l), len(s), e)
		}
	}
}

// P5.1
func TestBuildOfACellThatMayNotBe(t *testing.T) {
	for _, bad := range []api.Cell{
		{},
		{Row: "r"},
		{Col: "c"},
		{Row: strings.Repeat("r", 41), Col: "c"},
		{Row: "r", Col: strings.Repeat("c", 41)},
		{Row: "r", Col: "c", Val: strings.Repeat("v", 101)},
		{Row: "r", Col: "c", Del: true, Val: "v"},
	} {
		for i := range 26 {
			l := numbered(26)
			l[i] = bad
			if s, e := table.Build(l, 0); s != "" || e != api.ErrArg {
				t.Errorf("%+v at %d: %d bytes, %v", bad, i, len(s), e)
			}
		}
	}
}

// P5.1: within a block, and from one to the next.
func TestBuildOfCellsThatDoNotRise(t *testing.T) {
	for i := range 25 {
		l := numbered(26)
		l[i], l[i+1] = l[i+1], l[i]
		if s, e := table.Build(l, 0); s != "" || e != api.ErrOrder {
			t.Errorf("places %d and %d are changed: %d bytes, %v", i, i+1, len(s), e)
		}
		l = slices.Insert(numbered(26), i, numbered(26)[i])
		if s, e := table.Build(l, 3); s != "" || e != api.ErrOrder {
			t.Errorf("place %d stands twice: %d bytes, %v", i, len(s), e)
		}
	}
}

// P5.1: that cells of unlike blocks rise is said behind the blocks' own errors.
func TestBuildTellsBlocksErrorsFirst(t *testing.T) {
	for i := 8; i < 26; i++ {
		l := numbered(26)
		l[7], l[8] = l[8], l[7]
		l[i].Val = strings.Repeat("v", 101)
		if s, e := table.Build(l, 0); s != "" || e != api.ErrArg {
			t.Errorf("at %d: %d bytes, %v", i, len(s), e)
		}
	}
}

// P5.1
func TestBuildOfOneCoordinateTwice(t *testing.T) {
	l := oneRow(8)
	l = append(l, l[7])
	l[8].Val = "other"
	if s, e := table.Build(l, 7); s != "" || e != api.ErrOrder {
		t.Errorf("%d bytes, %v", len(s), e)
	}
	l[7].Seq = 1
	// One sequence makes them alike as they are read, but as they are written they rise.
	x := mustOpen(t, mustBuild(t, l, 7))
	if got := x.Cells(); !slices.Equal(got, stamped(l, 7)) {
		t.Error(got)
	}
}

// P5.1
func TestBuildLeavesItsCells(t *testing.T) {
	l := mixed()
	mustBuild(t, l, 77)
	if !slices.Equal(l, mixed()) {
		t.Error("the list was changed")
	}
}

// P5.3
func TestWhatAFileTells(t *testing.T) {
	for _, l := range lists() {
		for _, seq := range sequences() {
			x := mustOpen(t, mustBuild(t, l, seq))
			if !slices.Equal(x.Cells(), stamped(l, seq)) {
				t.Errorf("%d cells, sequence %d: %+v", len(l), seq, x.Cells())
			}
			if x.Many() != len(l) || x.Blocks() != (len(l)+7)/8 || x.Seq() != seq {
				t.Errorf("%d cells, sequence %d: %d, %d, %d", len(l), seq, x.Many(), x.Blocks(), x.Seq())
			}
			if first, last := x.Range(); first != l[0].Row || last != l[len(l)-1].Row {
				t.Errorf("%d cells: %q, %q", len(l), first, last)
			}
		}
	}
}

// P5.3
func TestBlocksOfTheExample(t *testing.T) {
	for many, want := range map[int]int{1: 1, 7: 1, 8: 1, 9: 2, 16: 2, 17: 3, 2000: 250} {
		if n := mustOpen(t, mustBuild(t, numbered(many), 0)).Blocks(); n != want {
			t.Errorf("%d cells: %d blocks", many, n)
		}
	}
}

// asked is rows that are there, and rows beside, ahead of, and behind them.
func asked(l []api.Cell) []string {
	rows := []string{"", "\x00", "a", "m", "r", "row", "row1005\x00", "z", "\xff\xff\xff", strings.Repeat("r", 300)}
	for _, row := range slowRows(l) {
		rows = append(rows, row, row+"\x00", row[:len(row)-1], row+"zz")
	}
	// So many that a filter takes some of them for its own.
	for i := range 300 {
		rows = append(rows, "row1"+strconv.Itoa(i), "x"+strconv.Itoa(i))
	}
	return rows
}

func slowRow(l []api.Cell, row string) []api.Cell {
	var found []api.Cell
	for _, c := range l {
		if c.Row == row {
			found = append(found, c)
		}
	}
	return found
}

// P5.3
func TestRow(t *testing.T) {
	for _, l := range lists() {
		for _, seq := range []uint64{0, 9} {
			x := mustOpen(t, mustBuild(t, l, seq))
			read := stamped(l, seq)
			for _, row := range asked(l) {
				if got, want := x.Row(row), slowRow(read, row); !slices.Equal(got, want) {
					t.Errorf("%d cells, row %q: %+v, want %+v", len(l), row, got, want)
				}
			}
		}
	}
}

// slowLooks is how many blocks span row, by the document's words.
func slowLooks(l []api.Cell, row string) int {
	n := 0
	for i := 0; i < len(l); i += 8 {
		if l[min(i+7, len(l)-1)].Row >= row && l[i].Row <= row {
			n++
		}
	}
	return n
}

// P5.3
func TestLooks(t *testing.T) {
	spared, inVain, outside := 0, 0, 0
	for _, l := range lists() {
		x := mustOpen(t, mustBuild(t, l, 4))
		filter, _ := bloom.Make(slowRows(l), 10)
		for _, row := range asked(l) {
			spans, may := slowLooks(l, row), bloom.May(filter, row)
			want := spans
			if !may {
				want = 0
			}
			if n := x.Looks(row); n != want {
				t.Errorf("%d cells, row %q: %d, want %d", len(l), row, n, want)
			}
			switch {
			case spans > 0 && !may:
				spared++
			case spans == 0 && may:
				outside++
			case spans > 0 && len(x.Row(row)) == 0:
				inVain++
			}
		}
	}
	// That the filter spares a look, that no block spans what it does not, and that a look is in
	// vain: the lists have rows of all kinds.
	if spared == 0 || inVain == 0 || outside == 0 {
		t.Error(spared, inVain, outside)
	}
}

// P5.3
func TestLooksOfARowInManyBlocks(t *testing.T) {
	l := append(append([]api.Cell{{Row: "a", Col: "c"}}, oneRow(25)...), api.Cell{Row: "z", Col: "c"})
	x := mustOpen(t, mustBuild(t, l, 0))
	for row, want := range map[string]int{"a": 1, "r": 4, "z": 1} {
		if n := x.Looks(row); n != want {
			t.Errorf("%q: %d", row, n)
		}
	}
}

// P5.3: writing over what was answered changes nothing.
func TestAnswersAreNewMemory(t *testing.T) {
	for _, seq := range []uint64{0, 5} {
		l := oneRow(25)
		x := mustOpen(t, mustBuild(t, l, seq))
		clear(x.Cells())
		clear(x.Row("r"))
		for _, got := range [][]api.Cell{x.Cells(), x.Row("r")} {
			if !slices.Equal(got, stamped(l, seq)) {
				t.Errorf("sequence %d: %+v", seq, got)
			}
		}
		grown := append(x.Row("r")[:3], api.Cell{Row: "other"})
		if grown[3].Row != "other" || x.Row("r")[3].Row != "r" {
			t.Error("lists share memory")
		}
	}
}
