package table_test

import (
	"slices"
	"strings"
	"testing"

	"rickyard/api"
	"rickyard/block"
	"rickyard/bloom"
	"rickyard/crc"
	"rickyard/table"
)

func wrong(t *testing.T, what, s string, want api.Errno) {
	t.Helper()
	if x, e := table.Open(s); x != nil || e != want {
		t.Errorf("%s: Open tells %v, want %v", what, e, want)
	}
	for _, seq := range []uint64{0, 5, most} {
		if x, e := table.Stamp(s, seq); x != "" || e != want {
			t.Errorf("%s: Stamp tells %d bytes, %v, want %v", what, len(x), e, want)
		}
	}
}

// wrongEnd is the document's error of bytes that are no file.
func wrongEnd(s string) api.Errno {
	if len(s) < 26 {
		return api.ErrSum
	}
	if _, _, e := crc.Get(s[len(s)-26:]); e != api.OK {
		return api.ErrSum
	}
	return api.ErrForm
}

// P5.2
func TestOpenOfShortBytes(t *testing.T) {
	for _, s := range []string{"", "a", put(t, ""), put(t, "text"), put(t, strings.Repeat("x", 19)), strings.Repeat("\x00", 25)} {
		wrong(t, "short bytes", s, api.ErrSum)
	}
}

// P5.2: the last 26 bytes have their sum, or begin with a text that has, but are no foot of a file.
func TestOpenOfAFootThatIsNone(t *testing.T) {
	s := mustBuild(t, numbered(9), 5)
	for _, end := range []string{
		put(t, strings.Repeat("x", 20)),
		put(t, strings.Repeat("\x00", 20)),
		put(t, strings.Repeat("\xff", 20)),
		put(t, "") + strings.Repeat("x", 20),
		put(t, strings.Repeat("x", 19)) + "x",
	} {
		wrong(t, "a foot alone", end, api.ErrForm)
		wrong(t, "a foot behind a file", s+end, api.ErrForm)
		wrong(t, "another foot", s[:len(s)-26]+end, api.ErrForm)
	}
	wrong(t, "a longer text", s[:len(s)-26]+put(t, s[len(s)-20:]+"\x00"), api.ErrSum)
}

// P5.2
func TestOpenOfCutBytes(t *testing.T) {
	s := mustBuild(t, numbered(20), 5)
	for n := range len(s) {
		// The index, or the filter, may stand where a foot should, with its sum.
		wrong(t, "the beginning", s[:n], wrongEnd(s[:n]))
		if n > 0 {
			wrong(t, "the end", s[n:], wrongEnd(s[n:]))
		}
	}
	for n := range len(s) - 26 {
		wrong(t, "a byte more", s[:n]+"x"+s[n:], api.ErrForm)
		wrong(t, "a byte less", s[:n]+s[n+1:], api.ErrForm)
	}
	wrong(t, "twice", s+s, api.ErrForm)
	wrong(t, "a byte behind", s+"x", api.ErrSum)
}

// P5.2: each bit of a file.
func TestOpenOfTurnedBits(t *testing.T) {
	s := mustBuild(t, numbered(9), 5)
	for i := range len(s) {
		for bit := range 8 {
			b := []byte(s)
			b[i] ^= 1 << bit
			want := api.ErrForm
			if i >= len(s)-26 {
				want = api.ErrSum
			}
			wrong(t, "a bit is turned", string(b), want)
		}
	}
}

// P5.2: all sums are right, but the blocks have other sizes than a file's.
func TestOpenOfOtherBlocks(t *testing.T) {
	l := numbered(24)
	for _, sizes := range [][]int{
		{7, 8, 8, 1}, {8, 7, 8, 1}, {9, 8, 7}, {8, 9, 7}, {16, 8}, {24}, {8, 8, 4, 4}, {8, 8, 7, 1},
		{8, 8, 8, 0}, {0, 8, 8, 8}, {8, 0, 8, 8}, {1, 8, 8, 7},
	} {
		wrong(t, "sizes", slowFile(t, l, 5, sizes...).bytes(t), api.ErrForm)
	}
	if s := slowFile(t, l, 5, 8, 8, 8).bytes(t); !slices.Equal(mustOpen(t, s).Cells(), stamped(l, 5)) {
		t.Error("the file itself")
	}
}

// P5.2
func TestOpenOfNoCells(t *testing.T) {
	wrong(t, "no block", slowFile(t, nil, 5).bytes(t), api.ErrForm)
	wrong(t, "an empty block", slowFile(t, nil, 5, 0).bytes(t), api.ErrForm)
}

// P5.2
func TestOpenOfTooManyCells(t *testing.T) {
	l := numbered(2001)
	f := slowFile(t, l[:2000], 0, eights(2000)...)
	mustOpen(t, f.bytes(t))
	b, _ := block.Build(l[2000:])
	f.blocks = append(f.blocks, b)
	f.index = slowIndex(f.blocks)
	f.foot = slowFoot(t, f, 0)
	wrong(t, "2001 cells", f.bytes(t), api.ErrForm)
}

// P5.2: each block rises, but not from one to the next.
func TestOpenOfBlocksThatDoNotRise(t *testing.T) {
	for _, change := range []func(blocks []string){
		func(b []string) { b[0], b[1] = b[1], b[0] },
		func(b []string) { b[1] = b[0] },
		func(b []string) { b[2] = b[0] },
	} {
		f := slowFile(t, numbered(24), 5, 8, 8, 8)
		change(f.blocks)
		f.index = slowIndex(f.blocks)
		f.foot = slowFoot(t, f, 5)
		wrong(t, "changed blocks", f.bytes(t), api.ErrForm)
	}
}

// P5.2: texts with right sums that are no blocks.
func TestOpenOfBlocksThatAreNone(t *testing.T) {
	for place := range 3 {
		for _, text := range []string{"", "x", "\x01", "\x09\x00"} {
			f := slowFile(t, numbered(24), 5, 8, 8, 8)
			f.blocks[place] = text
			f.index = slowIndex(f.blocks)
			f.foot = slowFoot(t, f, 5)
			wrong(t, "no block", f.bytes(t), api.ErrForm)
		}
	}
}

// P5.2: indexes with right sums that tell other things.
func TestOpenOfOtherIndexes(t *testing.T) {
	f := slowFile(t, numbered(20), 5, 8, 8, 4)
	index := f.index
	for _, other := range []string{
		"", "\x00\x00", index[:2], index[:6], index[:len(index)-1], index + "\x00", index + index[2:6],
		"\x02" + index[1:], "\x04" + index[1:], "\x03\x01" + index[2:],
		index[:6] + index[2:6] + index[10:] + "\x00",
		index[:10] + index[6:10], low(3, 4) + index[2:],
	} {
		f.index = other
		f.foot = slowFoot(t, f, 5)
		wrong(t, "another index", f.bytes(t), api.ErrForm)
	}
	for i := range index {
		b := []byte(index)
		b[i]++
		f.index = string(b)
		f.foot = slowFoot(t, f, 5)
		wrong(t, "a byte of the index", f.bytes(t), api.ErrForm)
	}
}

// P5.2: filters with right sums that were made of other rows, or otherwise.
func TestOpenOfOtherFilters(t *testing.T) {
	l := numbered(20)
	f := slowFile(t, l, 5, 8, 8, 4)
	filter, rows := f.filter, slowRows(l)
	var twice []string
	for _, c := range l {
		twice = append(twice, c.Row)
	}
	var others []string
	for _, names := range [][]string{nil, rows[1:], rows[:len(rows)-1], twice, append(slices.Clone(rows[1:]), "other")} {
		other, _ := bloom.Make(names, 10)
		others = append(others, other)
	}
	for _, bits := range []int{1, 9, 11, 64} {
		other, _ := bloom.Make(rows, bits)
		others = append(others, other)
	}
	for i := range filter {
		b := []byte(filter)
		b[i] ^= 1 << (i % 8)
		others = append(others, string(b))
	}
	others = append(others, "", filter[1:], filter+"\x00", strings.Repeat("\xff", len(filter)))
	for _, other := range others {
		if other == filter {
			t.Fatal("this one is right")
		}
		f.filter = other
		f.foot = slowFoot(t, f, 5)
		wrong(t, "another filter", f.bytes(t), api.ErrForm)
	}
}

// P5.2: feet with right sums and other lengths.
func TestOpenOfOtherLengths(t *testing.T) {
	f := slowFile(t, numbered(20), 5, 8, 8, 4)
	foot := f.foot
	for i := range 12 {
		for _, by := range []byte{1, 2, 6, 128, 255} {
			b := []byte(foot)
			b[i] += by
			f.foot = string(b)
			wrong(t, "another length", f.bytes(t), api.ErrForm)
		}
	}
	for _, other := range []string{
		foot[4:8] + foot[:4] + foot[8:],
		foot[:4] + foot[8:12] + foot[4:8] + foot[12:],
		strings.Repeat("\xff", 12) + foot[12:],
		"\xff\xff\xff\x7f" + foot[4:],
		low(0, 4) + foot[4:],
	} {
		f.foot = other
		wrong(t, "other lengths", f.bytes(t), api.ErrForm)
	}
}

// P5.2: what stands between the parts counts.
func TestOpenOfMoreTexts(t *testing.T) {
	f := slowFile(t, numbered(20), 5, 8, 8, 4)
	all := ""
	for _, b := range f.blocks {
		all += put(t, b)
	}
	index, filter, foot := put(t, f.index), put(t, f.filter), put(t, f.foot)
	wrong(t, "ahead of all", put(t, "")+all+index+filter+foot, api.ErrForm)
	wrong(t, "behind the blocks", all+put(t, "")+index+filter+foot, api.ErrForm)
	wrong(t, "behind the index", all+index+put(t, "")+filter+foot, api.ErrForm)
	wrong(t, "behind the filter", all+index+filter+put(t, "")+foot, api.ErrForm)
	wrong(t, "no filter", all+index+foot, api.ErrForm)
	wrong(t, "no index", all+filter+foot, api.ErrForm)
	wrong(t, "no blocks", index+filter+foot, api.ErrForm)
	wrong(t, "turned round", all+filter+index+foot, api.ErrForm)
	mustOpen(t, all+index+filter+foot)
}

// P5.2: every sequence is one of a file.
func TestOpenOfAnySequence(t *testing.T) {
	f := slowFile(t, numbered(20), 5, 8, 8, 4)
	for _, seq := range sequences() {
		f.foot = slowFoot(t, f, seq)
		if got := mustOpen(t, f.bytes(t)).Seq(); got != seq {
			t.Errorf("%d: %d", seq, got)
		}
	}
}

// P5.4
func TestStamp(t *testing.T) {
	for _, l := range lists() {
		for _, was := range []uint64{0, 5} {
			s := mustBuild(t, l, was)
			for _, seq := range sequences() {
				y, e := table.Stamp(s, seq)
				if e != api.OK || y != mustBuild(t, l, seq) {
					t.Errorf("%d cells, %d to %d: %v", len(l), was, seq, e)
				}
			}
		}
	}
}

// P5.4: a stamp of 0 gives the cells their own Seq again.
func TestStampIsNotForGood(t *testing.T) {
	l := mixed()
	s := mustBuild(t, l, 0)
	y, _ := table.Stamp(s, 9)
	z, e := table.Stamp(y, 0)
	if e != api.OK || z != s {
		t.Errorf("%v", e)
	}
	if got := mustOpen(t, z).Cells(); !slices.Equal(got, l) {
		t.Error(got)
	}
}

// P5.5
func TestWhatWasBuiltIsOpened(t *testing.T) {
	for _, l := range lists() {
		for _, seq := range sequences() {
			x, e := table.Open(mustBuild(t, l, seq))
			if e != api.OK || x.Many() != len(l) || x.Seq() != seq {
				t.Errorf("%d cells, %d: %v", len(l), seq, e)
			}
		}
	}
}

// P5.5
func TestStampChangesTheLastBytesAlone(t *testing.T) {
	s := mustBuild(t, numbered(50), 0)
	for _, seq := range sequences() {
		y, e := table.Stamp(s, seq)
		if e != api.OK || len(y) != len(s) || y[:len(s)-26] != s[:len(s)-26] || (y == s) != (seq == 0) {
			t.Errorf("%d: %v", seq, e)
		}
	}
}

// P5.5
func TestARowThatIsThereIsLookedFor(t *testing.T) {
	for _, l := range lists() {
		x := mustOpen(t, mustBuild(t, l, 3))
		for _, row := range slowRows(l) {
			if x.Looks(row) < 1 || len(x.Row(row)) < 1 {
				t.Errorf("%d cells, row %q: %d", len(l), row, x.Looks(row))
			}
		}
	}
}
