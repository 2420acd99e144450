package block_test

import (
	"math"
	"slices"
	"strconv"
	"strings"
	"testing"

	"rickyard/api"
	"rickyard/block"
	"rickyard/cell"
)

// slowShared is the document's rule: the longest text that is a beginning of both.
func slowShared(a, b string) int {
	for n := len(a); n > 0; n-- {
		if strings.HasPrefix(b, a[:n]) {
			return n
		}
	}
	return 0
}

// entry is the bytes of one cell of a block, whatever they say.
func entry(shared int, left string, del byte, val string) string {
	head := []byte{byte(shared % 256), byte(shared / 256), byte(len(left) % 256), byte(len(left) / 256)}
	return string(head) + left + string([]byte{del, byte(len(val))}) + val
}

// slowBuild is the document's bytes of cells that may be, and rise.
func slowBuild(l []api.Cell) string {
	s := string([]byte{byte(len(l))})
	for i, c := range l {
		shared := 0
		if i%4 != 0 {
			shared = slowShared(cell.Key(l[i-1]), cell.Key(c))
		}
		s += entry(shared, cell.Key(c)[shared:], map[bool]byte{true: 1}[c.Del], c.Val)
	}
	return s
}

// mixed is cells that rise, with names, times and values of all kinds, and keys that share
// nothing, little, and all but the last byte.
func mixed() []api.Cell {
	const most = math.MaxUint64
	n40, z40 := strings.Repeat("n", 40), strings.Repeat("\x00", 40)
	return []api.Cell{
		{Row: "\x00", Col: "c", Ts: 3, Val: "\x00"},
		{Row: z40, Col: z40, Ts: most, Seq: most},
		{Row: z40, Col: z40, Ts: most, Seq: most - 1, Val: strings.Repeat("v", 100)},
		{Row: z40, Col: z40, Ts: most, Seq: 0, Del: true},
		{Row: z40, Col: z40, Ts: 0, Seq: 0, Val: "x"},
		{Row: "a", Col: "\x00\xff", Ts: 1},
		{Row: "a", Col: "c", Ts: 2, Seq: 1, Val: "x"},
		{Row: "a", Col: "c", Ts: 2, Seq: 0, Val: "x"},
		{Row: "a", Col: "c", Ts: 1, Seq: 9, Del: true},
		{Row: "a", Col: "c", Ts: 0, Seq: 9, Val: strings.Repeat("\xff", 99)},
		{Row: "a", Col: "ca"},
		{Row: "ab", Col: "c", Ts: 256},
		{Row: "ab", Col: "c", Ts: 255},
		{Row: n40, Col: "c"},
		{Row: n40, Col: n40, Ts: 7, Seq: 7, Val: "\n"},
		{Row: n40, Col: n40, Ts: 7, Seq: 6, Val: "é"},
		{Row: n40, Col: n40, Ts: 6, Seq: 8},
		{Row: "\xff", Col: "\xff", Ts: most, Del: true},
		{Row: "\xff\xff", Col: "\x00"},
	}
}

// numbered is n cells that rise.
func numbered(n int) []api.Cell {
	l := make([]api.Cell, n)
	for i := range l {
		l[i] = api.Cell{Row: "row" + strconv.Itoa(1000+i/3), Col: "c", Ts: uint64(5 - i%3), Seq: uint64(i), Val: strconv.Itoa(i)}
	}
	return l
}

func mustBuild(t *testing.T, l []api.Cell) string {
	t.Helper()
	s, e := block.Build(l)
	if e != api.OK {
		t.Fatalf("Build of %d cells: %v", len(l), e)
	}
	return s
}

// P4.1
func TestShared(t *testing.T) {
	for _, x := range []struct {
		a, b string
		n    int
	}{
		{"", "", 0}, {"", "a", 0}, {"a", "b", 0}, {"a", "a", 1}, {"a", "ab", 1}, {"abc", "abd", 2},
		{"abc", "xbc", 0}, {"abcx", "abdx", 2}, {"\x00", "\x00\x00", 1}, {"\xff\xfe", "\xff\xff", 1},
		{"é", "è", 1}, {strings.Repeat("k", 300), strings.Repeat("k", 300), 300},
		{strings.Repeat("k", 4500), strings.Repeat("k", 4499) + "l", 4499},
	} {
		if n := block.Shared(x.a, x.b); n != x.n {
			t.Errorf("Shared(%q, %q) = %d, want %d", x.a, x.b, n, x.n)
		}
		if n := block.Shared(x.b, x.a); n != x.n {
			t.Errorf("Shared(%q, %q) = %d, want %d", x.b, x.a, n, x.n)
		}
	}
	for _, a := range mixed() {
		for _, b := range mixed() {
			if n, want := block.Shared(cell.Key(a), cell.Key(b)), slowShared(cell.Key(a), cell.Key(b)); n != want {
				t.Errorf("keys of %+v and %+v: %d, want %d", a, b, n, want)
			}
		}
	}
}

// P4.2
func TestBuildOfNone(t *testing.T) {
	for _, l := range [][]api.Cell{nil, {}} {
		if s, e := block.Build(l); s != "\x00" || e != api.OK {
			t.Errorf("%q, %v", s, e)
		}
	}
}

// P4.2
func TestBuildToTheByte(t *testing.T) {
	l := []api.Cell{{Row: "a", Col: "c", Ts: 2, Val: "x"}, {Row: "a", Col: "c", Ts: 1, Del: true}}
	const ones = "\xff\xff\xff\xff\xff\xff\xff"
	want := "\x02" +
		"\x00\x00" + "\x16\x00" + "a\x00\x01c\x00\x01" + ones + "\xfd" + ones + "\xff" + "\x00" + "\x01x" +
		"\x0d\x00" + "\x09\x00" + "\xfe" + ones + "\xff" + "\x01" + "\x00"
	if s := mustBuild(t, l); s != want {
		t.Errorf("%q, want %q", s, want)
	}
}

// P4.2
func TestBuildByTheRule(t *testing.T) {
	for n := range mixed() {
		for _, l := range [][]api.Cell{mixed()[:n+1], mixed()[n:]} {
			if s, want := mustBuild(t, l), slowBuild(l); s != want {
				t.Errorf("%d cells: %q, want %q", len(l), s, want)
			}
		}
	}
	for n := range 256 {
		if s, want := mustBuild(t, numbered(n)), slowBuild(numbered(n)); s != want {
			t.Errorf("%d cells: %q, want %q", n, s, want)
		}
	}
}

// P4.2
func TestEachFourthKeyIsWhole(t *testing.T) {
	s := mustBuild(t, numbered(255))[1:]
	for i := range 255 {
		shared, left := int(s[0])+256*int(s[1]), int(s[2])+256*int(s[3])
		if (shared == 0) != (i%4 == 0) {
			t.Errorf("cell %d shares %d bytes", i, shared)
		}
		s = s[4+left+2+int(s[4+left+1]):]
	}
	if s != "" {
		t.Errorf("%q is left", s)
	}
}

// P4.2
func TestBuildOfTooMany(t *testing.T) {
	for _, l := range [][]api.Cell{numbered(256), numbered(300), make([]api.Cell, 256), make([]api.Cell, 512)} {
		if s, e := block.Build(l); s != "" || e != api.ErrWide {
			t.Errorf("%d cells: %q, %v", len(l), s, e)
		}
	}
}

// P4.2
func TestBuildOfCellsThatMayNotBe(t *testing.T) {
	good := api.Cell{Row: "m", Col: "c"}
	for _, bad := range []api.Cell{
		{},
		{Row: "r"},
		{Col: "c"},
		{Row: strings.Repeat("r", 41), Col: "c"},
		{Row: strings.Repeat("r", 296), Col: "c"},
		{Row: "r", Col: strings.Repeat("c", 41)},
		{Row: "r", Col: "c", Val: strings.Repeat("v", 101)},
		{Row: "r", Col: "c", Val: strings.Repeat("v", 256)},
		{Row: "r", Col: "c", Del: true, Val: "v"},
	} {
		// In some of these lists the cells do not rise either: ErrArg is the one named first.
		for _, l := range [][]api.Cell{{bad}, {bad, good}, {good, bad}, {good, good, bad}, {bad, bad}} {
			if s, e := block.Build(l); s != "" || e != api.ErrArg {
				t.Errorf("%+v among %d: %q, %v", bad, len(l), s, e)
			}
		}
		if s, e := block.Build(append(numbered(254), bad)); s != "" || e != api.ErrArg {
			t.Errorf("%+v as the last of 255: %q, %v", bad, s, e)
		}
	}
}

// P4.2
func TestBuildOfCellsThatDoNotRise(t *testing.T) {
	l := mixed()
	for i := range len(l) - 1 {
		swapped := slices.Clone(l)
		swapped[i], swapped[i+1] = swapped[i+1], swapped[i]
		if s, e := block.Build(swapped); s != "" || e != api.ErrOrder {
			t.Errorf("places %d and %d are changed: %q, %v", i, i+1, s, e)
		}
		twice := slices.Insert(slices.Clone(l), i, l[i])
		if s, e := block.Build(twice); s != "" || e != api.ErrOrder {
			t.Errorf("place %d stands twice: %q, %v", i, s, e)
		}
	}
	beside := []api.Cell{{Row: "r", Col: "c", Val: "a"}, {Row: "r", Col: "c", Val: "b"}}
	if s, e := block.Build(beside); s != "" || e != api.ErrOrder {
		t.Errorf("%q, %v", s, e)
	}
}

// P4.2
func TestBuildLeavesItsCells(t *testing.T) {
	l := mixed()
	mustBuild(t, l)
	if !slices.Equal(l, mixed()) {
		t.Error("the list was changed")
	}
}

// P4.4: below each key, at it, and above it; the borders are the keys, one by one.
func TestSeekCountsKeysBelow(t *testing.T) {
	l := mixed()
	s := mustBuild(t, l)
	asked := []string{"", "\x00", "\x00\x01", "\x00\xff", "a", "a\x00", "b", "z", "\xff", "\xff\xff\xff", strings.Repeat("\xff", 300)}
	for _, c := range l {
		key := cell.Key(c)
		asked = append(asked, key, key+"\x00", key[:len(key)-1], key[:1], c.Row, c.Col)
	}
	for _, key := range asked {
		want := 0
		for _, c := range l {
			if strings.Compare(cell.Key(c), key) < 0 {
				want++
			}
		}
		if n, e := block.Seek(s, key); n != want || e != api.OK {
			t.Errorf("Seek(%q) = %d, %v, want %d", key, n, e, want)
		}
	}
}

// P4.4
func TestSeekOfEachCell(t *testing.T) {
	for _, l := range [][]api.Cell{mixed(), numbered(1), numbered(4), numbered(5), numbered(255)} {
		s := mustBuild(t, l)
		for i, c := range l {
			if n, e := block.Seek(s, cell.Key(c)); n != i || e != api.OK {
				t.Errorf("cell %d of %d: %d, %v", i, len(l), n, e)
			}
		}
		if n, e := block.Seek(s, "\xff\xff\xff"); n != len(l) || e != api.OK {
			t.Errorf("above %d: %d, %v", len(l), n, e)
		}
		if n, e := block.Seek(s, ""); n != 0 || e != api.OK {
			t.Errorf("below %d: %d, %v", len(l), n, e)
		}
	}
}

// P4.4
func TestSeekAmongNone(t *testing.T) {
	for _, key := range []string{"", "a", "\xff"} {
		if n, e := block.Seek("\x00", key); n != 0 || e != api.OK {
			t.Errorf("%q: %d, %v", key, n, e)
		}
	}
}

// P4.4: an error counts wherever it stands, behind what is asked for too.
func TestSeekTellsWhatParseTells(t *testing.T) {
	s := mustBuild(t, mixed())
	wrong := 0
	for n := range len(s) {
		for _, other := range []string{s[:n], s[:n] + "\x03" + s[n:], s[:n] + "\xff" + s[n+1:]} {
			_, want := block.Parse(other)
			if want == api.OK {
				continue
			}
			wrong++
			for _, key := range []string{"", "\x00\xff\x01", "a", "\xff\xff\xff"} {
				if many, e := block.Seek(other, key); many != 0 || e != want {
					t.Errorf("at %d, %q: %d, %v", n, key, many, e)
				}
			}
		}
	}
	if wrong < 2*len(s) {
		t.Errorf("%d texts are wrong", wrong)
	}
}
