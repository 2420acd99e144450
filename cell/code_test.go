package cell_test

import (
	"math"
	"strings"
	"testing"

	"rickyard/api"
	"rickyard/cell"
)

// P1.4
func TestEncodeToTheByte(t *testing.T) {
	for _, x := range []struct {
		c     api.Cell
		bytes string
	}{
		{api.Cell{Row: "r", Col: "c"}, "\x01r\x01c" + zeros + zeros + "\x00\x00"},
		{api.Cell{Row: "r", Col: "c", Del: true}, "\x01r\x01c" + zeros + zeros + "\x01\x00"},
		{api.Cell{Row: "r", Col: "c", Ts: math.MaxUint64, Seq: math.MaxUint64, Val: "v"}, "\x01r\x01c" + ones + ones + "\x00\x01v"},
		{api.Cell{Row: "ab", Col: "cde", Ts: 0x0102030405060708, Seq: 258, Val: "\x00\xff"}, "\x02ab\x03cde\x08\x07\x06\x05\x04\x03\x02\x01\x02\x01\x00\x00\x00\x00\x00\x00\x00\x02\x00\xff"},
		{api.Cell{Row: "\x00", Col: "\xff\x00"}, "\x01\x00\x02\xff\x00" + zeros + zeros + "\x00\x00"},
		{api.Cell{Row: name(40), Col: name(40), Val: name(100)}, "\x28" + name(40) + "\x28" + name(40) + zeros + zeros + "\x00\x64" + name(100)},
	} {
		if got, e := cell.Encode(x.c); got != x.bytes || e != api.OK {
			t.Errorf("Encode(%+v) = %q, %d", x.c, got, e)
		}
		for _, rest := range []string{"", "\x00", "z", x.bytes} {
			if got, left, e := cell.Decode(x.bytes + rest); got != x.c || left != rest || e != api.OK {
				t.Errorf("Decode(%q) = %+v, %q, %d", x.bytes+rest, got, left, e)
			}
		}
	}
}

// P1.4
func TestEncodeOfWhatMayNotBe(t *testing.T) {
	for _, c := range cellsThatMayNotBe() {
		if got, e := cell.Encode(c); got != "" || e != api.ErrArg {
			t.Errorf("Encode(%+v) = %q, %d", c, got, e)
		}
	}
}

func wrong(t *testing.T, s string, want api.Errno) {
	t.Helper()
	if c, rest, e := cell.Decode(s); c != (api.Cell{}) || rest != "" || e != want {
		t.Errorf("Decode(%q) = %+v, %q, %d; want error %d", s, c, rest, e, want)
	}
}

// P1.4
func TestDecodeOfMissingBytes(t *testing.T) {
	for _, c := range []api.Cell{
		{Row: "row", Col: "column", Ts: 1 << 60, Seq: 77, Val: "value"},
		{Row: "r", Col: "c", Del: true},
		{Row: name(40), Col: name(40), Val: name(100)},
	} {
		s, _ := cell.Encode(c)
		for n := range len(s) {
			wrong(t, s[:n], api.ErrShort)
		}
	}
}

// P1.4
func TestDecodeOfAWrongDel(t *testing.T) {
	ahead := "\x01r\x01c" + zeros + zeros
	for b := 2; b < 256; b++ {
		del := string([]byte{byte(b)})
		wrong(t, ahead+del+"\x00", api.ErrArg)
		wrong(t, ahead+del+"\x01vz", api.ErrArg)
	}
	wrong(t, ahead+"\x01\x01v", api.ErrArg)
	wrong(t, ahead+"\x01\x64"+name(100), api.ErrArg)
}

// P1.4: a byte of Del is looked at as it is read, ahead of what is missing behind it.
func TestDecodeOfAWrongDelThatIsCut(t *testing.T) {
	ahead := "\x01r\x01c" + zeros + zeros
	wrong(t, ahead+"\x02", api.ErrArg)
	wrong(t, ahead+"\xff\x05v", api.ErrArg)
	wrong(t, ahead[:len(ahead)-1], api.ErrShort)
}

// P1.4: whether it may be is looked at behind all, so what is missing is told first.
func TestDecodeOfWhatMayNotBe(t *testing.T) {
	tail := zeros + zeros + "\x00\x00"
	for _, s := range []string{
		"\x00\x01c" + tail,
		"\x01r\x00" + tail,
		"\x00\x00" + tail,
		"\x29" + name(41) + "\x01c" + tail,
		"\x01r\x29" + name(41) + tail,
		"\xff" + name(255) + "\xff" + name(255) + tail,
		"\x01r\x01c" + zeros + zeros + "\x00\x65" + name(101),
		"\x01r\x01c" + zeros + zeros + "\x00\xff" + name(255),
		"\x01r\x01c" + zeros + zeros + "\x01\x01v",
	} {
		wrong(t, s, api.ErrArg)
		wrong(t, s+"z", api.ErrArg)
		for n := range len(s) {
			wrong(t, s[:n], api.ErrShort)
		}
	}
}

// P1.5
func TestBytesComeBack(t *testing.T) {
	var l []api.Cell
	for i, c := range edgeCells() {
		c.Del = i%3 == 0
		if !c.Del {
			c.Val = strings.Repeat("\x00v\xff", 34)[:i%101]
		}
		l = append(l, c)
	}
	var all strings.Builder
	for _, c := range l {
		s, e := cell.Encode(c)
		if e != api.OK {
			t.Fatalf("Encode(%+v): %d", c, e)
		}
		if got, rest, e := cell.Decode(s); got != c || rest != "" || e != api.OK {
			t.Fatalf("%+v: %+v, %q, %d", c, got, rest, e)
		}
		all.WriteString(s)
	}
	left := all.String()
	for i, c := range l {
		got, rest, e := cell.Decode(left)
		if got != c || e != api.OK {
			t.Fatalf("place %d: %+v, %d", i, got, e)
		}
		left = rest
	}
	if left != "" {
		t.Errorf("%d bytes are left", len(left))
	}
}

// P1.4, P1.5: what is decoded has just the bytes that it was decoded from.
func TestDecodeOfChangedBytes(t *testing.T) {
	s, _ := cell.Encode(api.Cell{Row: "r\x00", Col: "col", Ts: 258, Seq: 3, Val: "ab"})
	for i := range len(s) {
		for b := range 256 {
			changed := s[:i] + string([]byte{byte(b)}) + s[i+1:]
			c, rest, e := cell.Decode(changed)
			switch e {
			case api.OK:
				if again, f := cell.Encode(c); f != api.OK || again+rest != changed {
					t.Errorf("Decode(%q) = %+v, %q", changed, c, rest)
				}
			case api.ErrShort, api.ErrArg:
				if c != (api.Cell{}) || rest != "" {
					t.Errorf("Decode(%q) = %+v, %q with an error", changed, c, rest)
				}
			default:
				t.Errorf("Decode(%q): %d", changed, e)
			}
		}
	}
}
