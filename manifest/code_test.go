package manifest_test

import (
	"fmt"
	"math"
	"slices"
	"strings"
	"testing"

	"rickyard/api"
	"rickyard/manifest"
)

func sameEdit(e, f manifest.Edit) bool {
	return slices.Equal(e.Add, f.Add) && slices.Equal(e.Del, f.Del) && e.Next == f.Next && e.Flushed == f.Flushed
}

// encoded tells a fault unless e's bytes are want, and want is read as e.
func encoded(t *testing.T, e manifest.Edit, want string) {
	t.Helper()
	if s, wrong := manifest.Encode(e); s != want || wrong != api.OK {
		t.Errorf("Encode(%v) = %q, %d; want %q", e, s, wrong, want)
	}
	if d, wrong := manifest.Decode(want); !sameEdit(d, e) || wrong != api.OK {
		t.Errorf("Decode(%q) = %v, %d; want %v", want, d, wrong, e)
	}
}

func encodeFails(t *testing.T, e manifest.Edit, want api.Errno) {
	t.Helper()
	if s, wrong := manifest.Encode(e); s != "" || wrong != want {
		t.Errorf("Encode(%v) = %q, %d; want the error %d", e, s, wrong, want)
	}
}

func decodeFails(t *testing.T, s string) {
	t.Helper()
	if e, wrong := manifest.Decode(s); !sameEdit(e, manifest.Edit{}) || wrong != api.ErrForm {
		t.Errorf("Decode(%q) = %v, %d; want the error %d", s, e, wrong, api.ErrForm)
	}
}

// isAnEditOrNone tells whether s is an edit; then it is the edit's own bytes.
func isAnEditOrNone(t *testing.T, s string) bool {
	t.Helper()
	e, wrong := manifest.Decode(s)
	if wrong != api.OK {
		decodeFails(t, s)
		return false
	}
	encoded(t, e, s)
	return true
}

const (
	zeros    = "\x00\x00\x00\x00\x00\x00\x00\x00"
	counters = zeros + zeros
)

// P13.4
func TestEncode(t *testing.T) {
	encoded(t, manifest.Edit{}, counters+"\x00\x00")
	encoded(t, manifest.Edit{Next: 0x0102030405060708, Flushed: 0x1112131415161718},
		"\x08\x07\x06\x05\x04\x03\x02\x01\x18\x17\x16\x15\x14\x13\x12\x11\x00\x00")
	encoded(t, manifest.Edit{Next: math.MaxUint64, Flushed: 1 << 63},
		"\xff\xff\xff\xff\xff\xff\xff\xff\x00\x00\x00\x00\x00\x00\x00\x80\x00\x00")
	encoded(t, manifest.Edit{Add: []manifest.File{{Level: 2, Name: "t7", Low: "low", High: "m", Many: 0x0203}}},
		counters+"\x01\x02\x02t7\x03low\x01m\x03\x02\x00")
	encoded(t, manifest.Edit{Del: []string{"t7", "abc"}}, counters+"\x00\x02\x02t7\x03abc")
	encoded(t, manifest.Edit{
		Add: []manifest.File{
			{Level: 1, Name: "b", Low: "x", High: "y", Many: 1},
			{Level: 0, Name: "a", Low: "\x00", High: "\xff", Many: 2000},
		},
		Del:  []string{"a"},
		Next: 9,
	}, "\x09\x00\x00\x00\x00\x00\x00\x00"+zeros+"\x02\x01\x01b\x01x\x01y\x01\x00\x00\x01a\x01\x00\x01\xff\xd0\x07\x01\x01a")
}

// P13.4: an edit that no state takes has its bytes as well.
func TestEncodeOfWhatCanNotBeApplied(t *testing.T) {
	a := "\x01\x01a\x01b\x01c\x01\x00"
	encoded(t, manifest.Edit{Add: []manifest.File{file(1, "a", "b", "c"), file(1, "a", "b", "c")}, Del: []string{"d", "d"}},
		counters+"\x02"+a+a+"\x02\x01d\x01d")
}

// P13.4
func TestEncodeAtTheLimits(t *testing.T) {
	long := strings.Repeat("n", 59)
	row := strings.Repeat("r", 40)
	encoded(t, manifest.Edit{Add: []manifest.File{file(0, long, row, row)}, Del: []string{long}},
		counters+"\x01\x00\x3b"+long+"\x28"+row+"\x28"+row+"\x01\x00\x01\x3b"+long)
	many := manifest.Edit{Add: slices.Repeat([]manifest.File{file(0, "a", "b", "c")}, 255), Del: slices.Repeat([]string{"d"}, 255)}
	encoded(t, many, counters+"\xff"+strings.Repeat("\x00\x01a\x01b\x01c\x01\x00", 255)+"\xff"+strings.Repeat("\x01d", 255))
	for _, f := range limits() {
		comesBack(t, manifest.Edit{Add: []manifest.File{f}})
	}
}

// P13.4
func TestEncodeOfWhatMayNotBe(t *testing.T) {
	good := file(0, "x", "a", "b")
	for _, f := range wrongs() {
		encodeFails(t, manifest.Edit{Add: []manifest.File{f}}, api.ErrArg)
		encodeFails(t, manifest.Edit{Add: []manifest.File{f, good}, Del: []string{"x"}}, api.ErrArg)
		encodeFails(t, manifest.Edit{Add: []manifest.File{good, f}}, api.ErrArg)
	}
	for _, name := range []string{"", strings.Repeat("n", 60), strings.Repeat("n", 257), strings.Repeat("n", 300)} {
		encodeFails(t, manifest.Edit{Del: []string{name}}, api.ErrArg)
		encodeFails(t, manifest.Edit{Add: []manifest.File{good}, Del: []string{"x", name}}, api.ErrArg)
		encodeFails(t, manifest.Edit{Del: []string{name, "x"}}, api.ErrArg)
	}
}

// P13.4
func TestEncodeOfTooMany(t *testing.T) {
	files, names := []manifest.File{file(0, "a", "b", "c")}, []string{"d"}
	for _, n := range []int{256, 257, 300, 512} {
		encodeFails(t, manifest.Edit{Add: slices.Repeat(files, n)}, api.ErrWide)
		encodeFails(t, manifest.Edit{Del: slices.Repeat(names, n)}, api.ErrWide)
		encodeFails(t, manifest.Edit{Add: slices.Repeat(files, n), Del: slices.Repeat(names, n)}, api.ErrWide)
		// ErrArg is named ahead of ErrWide (R2).
		encodeFails(t, manifest.Edit{Add: append(slices.Repeat(files, n), nothing)}, api.ErrArg)
		encodeFails(t, manifest.Edit{Add: slices.Repeat(files, n), Del: []string{""}}, api.ErrArg)
		encodeFails(t, manifest.Edit{Del: append(slices.Repeat(names, n), "")}, api.ErrArg)
		encodeFails(t, manifest.Edit{Add: []manifest.File{nothing}, Del: slices.Repeat(names, n)}, api.ErrArg)
	}
}

// fullBytes is the bytes of an edit that has two of each.
func fullBytes(t *testing.T) string {
	t.Helper()
	s, wrong := manifest.Encode(manifest.Edit{
		Add:     []manifest.File{{Level: 1, Name: "t12", Low: "ab", High: "cd", Many: 258}, file(2, "t4", "e", "g")},
		Del:     []string{"t5", "t678"},
		Next:    1 << 40,
		Flushed: 77,
	})
	if wrong != api.OK {
		t.Fatal(wrong)
	}
	return s
}

// P13.4
func TestDecodeOfBytesThatAreCut(t *testing.T) {
	whole := fullBytes(t)
	for n := range whole {
		decodeFails(t, whole[:n])
		isAnEditOrNone(t, whole[n+1:])
	}
	for _, more := range []string{"\x00", "\x01", "x", "\x01a", whole} {
		decodeFails(t, whole+more)
	}
	for n := range counters + "\x00\x00" {
		decodeFails(t, (counters + "\x00\x00")[:n])
	}
}

// P13.4: an edit is answered of no bytes but its own, whichever of them is another one.
func TestDecodeOfBytesThatAreOthers(t *testing.T) {
	whole := fullBytes(t)
	read := 0
	for i := range whole {
		for b := range 256 {
			s := whole[:i] + string([]byte{byte(b)}) + whole[i+1:]
			if isAnEditOrNone(t, s) {
				read++
			}
		}
	}
	// The counters' bytes alone can be all that bytes can be.
	if read < 16*256 {
		t.Errorf("%d texts were read", read)
	}
}

// P13.4
func TestDecodeOfWhatMayNotBe(t *testing.T) {
	good := "\x00\x01a\x01b\x01c\x01\x00"
	encoded(t, justAdding(file(0, "a", "b", "c")), counters+"\x01"+good+"\x00")
	row := strings.Repeat("r", 41)
	for _, f := range []string{
		"\x03\x01a\x01b\x01c\x01\x00",
		"\xff\x01a\x01b\x01c\x01\x00",
		"\x00\x00\x01b\x01c\x01\x00",
		"\x00\x3c" + strings.Repeat("n", 60) + "\x01b\x01c\x01\x00",
		"\x00\x01a\x00\x01c\x01\x00",
		"\x00\x01a\x01b\x00\x01\x00",
		"\x00\x01a\x29" + row + "\x01s\x01\x00",
		"\x00\x01a\x01b\x29" + row + "\x01\x00",
		"\x00\x01a\x01c\x01b\x01\x00",
		"\x00\x01a\x01b\x01c\x00\x00",
		"\x00\x01a\x01b\x01c\xd1\x07",
		"\x00\x01a\x01b\x01c\xff\xff",
	} {
		decodeFails(t, counters+"\x01"+f+"\x00")
		decodeFails(t, counters+"\x02"+good+f+"\x00")
		decodeFails(t, counters+"\x02"+f+good+"\x00")
	}
	for _, name := range []string{"\x00", "\x3c" + strings.Repeat("n", 60), "\xff" + strings.Repeat("n", 255)} {
		decodeFails(t, counters+"\x00\x01"+name)
		decodeFails(t, counters+"\x00\x02\x01d"+name)
		decodeFails(t, counters+"\x00\x02"+name+"\x01d")
	}
}

func justAdding(files ...manifest.File) manifest.Edit {
	return manifest.Edit{Add: files}
}

// P13.4: whatever comes, it ends, and is an edit or none.
func TestDecodeOfBytesByDice(t *testing.T) {
	for seed := range 300 {
		d := dice(seed)
		s := make([]byte, d.below(60))
		for i := range s {
			s[i] = byte(d.below([]int{2, 4, 256}[seed%3]))
		}
		isAnEditOrNone(t, string(s))
	}
	decodeFails(t, "")
	decodeFails(t, strings.Repeat("\xff", 66000))
	decodeFails(t, strings.Repeat("\x01", 66000))
}

// slowBytes is P13.4's rule, word by word.
func slowBytes(e manifest.Edit) string {
	text := func(s string) string { return string([]byte{byte(len(s))}) + s }
	s := ""
	for _, n := range []uint64{e.Next, e.Flushed} {
		for range 8 {
			s += string([]byte{byte(n % 256)})
			n /= 256
		}
	}
	s += string([]byte{byte(len(e.Add))})
	for _, f := range e.Add {
		s += string([]byte{byte(f.Level)}) + text(f.Name) + text(f.Low) + text(f.High) + string([]byte{byte(f.Many % 256), byte(f.Many / 256)})
	}
	s += string([]byte{byte(len(e.Del))})
	for _, name := range e.Del {
		s += text(name)
	}
	return s
}

func comesBack(t *testing.T, e manifest.Edit) {
	t.Helper()
	encoded(t, e, slowBytes(e))
}

// P13.4, P13.5: edits come back.
func TestEditsComeBack(t *testing.T) {
	for seed := range 400 {
		d := dice(seed)
		e := manifest.Edit{Next: uint64(d.below(1<<31)) << d.below(33), Flushed: uint64(d.below(1<<31)) << d.below(33)}
		for range d.below(12) {
			f := manifest.File{
				Level: d.below(api.Levels),
				Name:  strings.Repeat(fmt.Sprint(d.below(10)), 1+d.below(59)),
				Low:   "a" + strings.Repeat("b", d.below(40)),
				High:  "b" + string([]byte{byte(d.below(256))}),
				Many:  1 + d.below(api.MaxCells),
			}
			e.Add = append(e.Add, f)
		}
		for range d.below(12) {
			e.Del = append(e.Del, strings.Repeat(string([]byte{byte(d.below(256))}), 1+d.below(59)))
		}
		comesBack(t, e)
	}
}

// P13.4, R4
func TestEncodeLeavesTheEdit(t *testing.T) {
	e := manifest.Edit{Add: []manifest.File{file(1, "b", "b", "c"), file(0, "a", "a", "b")}, Del: []string{"d", "c"}}
	was := manifest.Edit{Add: slices.Clone(e.Add), Del: slices.Clone(e.Del)}
	comesBack(t, e)
	if !sameEdit(e, was) {
		t.Errorf("%v was %v", e, was)
	}
}
