package cell_test

import (
	"math"
	"slices"
	"strings"
	"testing"

	"rickyard/api"
	"rickyard/cell"
)

const (
	zeros = "\x00\x00\x00\x00\x00\x00\x00\x00"
	ones  = "\xff\xff\xff\xff\xff\xff\xff\xff"
)

// P1.3
func TestKeyToTheByte(t *testing.T) {
	for _, x := range []struct {
		c   api.Cell
		key string
	}{
		{api.Cell{Row: "r", Col: "c"}, "r\x00\x01c\x00\x01" + ones + ones},
		{api.Cell{Row: "r", Col: "c", Ts: math.MaxUint64, Seq: math.MaxUint64}, "r\x00\x01c\x00\x01" + zeros + zeros},
		{api.Cell{Row: "ab", Col: "cd", Ts: 0x0102030405060708, Seq: 1}, "ab\x00\x01cd\x00\x01\xfe\xfd\xfc\xfb\xfa\xf9\xf8\xf7\xff\xff\xff\xff\xff\xff\xff\xfe"},
		{api.Cell{Row: "\x00", Col: "\x00\x01\xff"}, "\x00\xff\x00\x01\x00\xff\x01\xff\x00\x01" + ones + ones},
		{api.Cell{Row: "\xff", Col: "\x01"}, "\xff\x00\x01\x01\x00\x01" + ones + ones},
		{api.Cell{Row: name(40), Col: strings.Repeat("\x00", 40)}, name(40) + "\x00\x01" + strings.Repeat("\x00\xff", 40) + "\x00\x01" + ones + ones},
	} {
		if got := cell.Key(x.c); got != x.key {
			t.Errorf("Key(%+v) = %q", x.c, got)
		}
		if got, e := cell.FromKey(x.key); got != x.c || e != api.OK {
			t.Errorf("FromKey(%q) = %+v, %d", x.key, got, e)
		}
	}
}

// P1.3
func TestKeyHasNeitherDelNorVal(t *testing.T) {
	plain := api.Cell{Row: "r", Col: "c", Ts: 7, Seq: 8}
	for _, c := range []api.Cell{
		{Row: "r", Col: "c", Ts: 7, Seq: 8, Del: true},
		{Row: "r", Col: "c", Ts: 7, Seq: 8, Val: name(100)},
	} {
		if cell.Key(c) != cell.Key(plain) {
			t.Errorf("%+v", c)
		}
		if got, e := cell.FromKey(cell.Key(c)); got != plain || e != api.OK {
			t.Errorf("%+v, %d", got, e)
		}
	}
}

// P1.3
func TestKeyOfWhatMayNotBe(t *testing.T) {
	for _, c := range cellsThatMayNotBe() {
		if got := cell.Key(c); got != "" {
			t.Errorf("Key(%+v) = %q", c, got)
		}
	}
}

func cellsThatMayNotBe() []api.Cell {
	return []api.Cell{
		{},
		{Row: "r"},
		{Col: "c"},
		{Row: name(41), Col: "c"},
		{Row: "r", Col: name(41)},
		{Row: name(256), Col: "c"},
		{Row: "r", Col: "c", Val: name(101)},
		{Row: "r", Col: "c", Val: name(256)},
		{Row: "r", Col: "c", Del: true, Val: "v"},
	}
}

func noCell(t *testing.T, key string) {
	t.Helper()
	if c, e := cell.FromKey(key); c != (api.Cell{}) || e != api.ErrArg {
		t.Errorf("FromKey(%q) = %+v, %d", key, c, e)
	}
}

// P1.3
func TestFromKeyOfPartsAndMore(t *testing.T) {
	key := cell.Key(api.Cell{Row: "r\x00", Col: "\x00c", Ts: 9, Seq: 3})
	for n := range len(key) {
		noCell(t, key[:n])
	}
	noCell(t, key+"\x00")
	noCell(t, key+"\xff")
	noCell(t, key+key)
	noCell(t, "\x00\x01"+key)
}

// P1.3
func TestFromKeyOfOtherMarks(t *testing.T) {
	tail := ones + ones
	for mark := range 256 {
		if mark == 1 || mark == 255 {
			continue
		}
		pair := "\x00" + string([]byte{byte(mark)})
		noCell(t, "r"+pair+"c\x00\x01"+tail)
		noCell(t, "r"+pair+"\x00\x01c\x00\x01"+tail)
		noCell(t, "r\x00\x01c"+pair+tail)
		noCell(t, "r\x00\x01c"+pair+"\x00\x01"+tail)
	}
}

// P1.3
func TestFromKeyOfNamesThatMayNotBe(t *testing.T) {
	tail := ones + ones
	noCell(t, "\x00\x01c\x00\x01"+tail)
	noCell(t, "r\x00\x01\x00\x01"+tail)
	noCell(t, "\x00\x01\x00\x01"+tail)
	noCell(t, name(41)+"\x00\x01c\x00\x01"+tail)
	noCell(t, "r\x00\x01"+name(41)+"\x00\x01"+tail)
	noCell(t, strings.Repeat("\x00\xff", 41)+"\x00\x01c\x00\x01"+tail)
	noCell(t, name(4000))
	noCell(t, strings.Repeat("\x00\xff", 2000))
}

// edgeNames are all names of one or two bytes that order and marks hang on.
func edgeNames() []string {
	bytes := []string{"\x00", "\x01", "\x02", "a", "\xfe", "\xff"}
	l := slices.Clone(bytes)
	for _, a := range bytes {
		for _, b := range bytes {
			l = append(l, a+b)
		}
	}
	return l
}

func edgeCells() []api.Cell {
	var l []api.Cell
	for _, row := range edgeNames() {
		for _, col := range []string{"\x00", "\x00\xff", "a", "\xff"} {
			for _, ts := range []uint64{0, 1, 256, math.MaxUint64} {
				for _, seq := range []uint64{0, 255, 1 << 63} {
					l = append(l, api.Cell{Row: row, Col: col, Ts: ts, Seq: seq})
				}
			}
		}
	}
	return l
}

// P1.5
func TestCellsStandAsTheirKeysDo(t *testing.T) {
	l := edgeCells()
	keys := make([]string, len(l))
	for i, c := range l {
		keys[i] = cell.Key(c)
	}
	for i, a := range l {
		for k, b := range l {
			if got, want := cell.Cmp(a, b), strings.Compare(keys[i], keys[k]); got != want {
				t.Fatalf("Cmp(%+v, %+v) = %d, their keys %d", a, b, got, want)
			}
		}
	}
}

// P1.5
func TestKeysComeBack(t *testing.T) {
	for _, c := range edgeCells() {
		if got, e := cell.FromKey(cell.Key(c)); got != c || e != api.OK {
			t.Fatalf("%+v: %+v, %d", c, got, e)
		}
	}
}

// P1.3, P1.5: a key is of one cell alone.
func TestFromKeyOfChangedKeys(t *testing.T) {
	key := cell.Key(api.Cell{Row: "r\x00\xff", Col: "c\x00", Ts: 258, Seq: 3})
	for i := range len(key) {
		for b := range 256 {
			changed := key[:i] + string([]byte{byte(b)}) + key[i+1:]
			c, e := cell.FromKey(changed)
			switch e {
			case api.OK:
				if cell.Key(c) != changed {
					t.Errorf("FromKey(%q) = %+v", changed, c)
				}
			case api.ErrArg:
				if c != (api.Cell{}) {
					t.Errorf("FromKey(%q) = %+v with an error", changed, c)
				}
			default:
				t.Errorf("FromKey(%q): %d", changed, e)
			}
		}
	}
}
