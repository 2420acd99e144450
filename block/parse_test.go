package block_test

import (
	"slices"
	"strings"
	"testing"

	"rickyard/api"
	"rickyard/block"
	"rickyard/cell"
)

func mustParse(t *testing.T, s string) []api.Cell {
	t.Helper()
	l, e := block.Parse(s)
	if e != api.OK {
		t.Fatalf("Parse(%q): %v", s, e)
	}
	return l
}

// refuse has both calls that read a block refuse s.
func refuse(t *testing.T, what, s string) {
	t.Helper()
	if l, e := block.Parse(s); len(l) != 0 || e != api.ErrForm {
		t.Errorf("%s: Parse(%q) = %d cells, %v", what, s, len(l), e)
	}
	if n, e := block.Seek(s, "\xff\xff\xff"); n != 0 || e != api.ErrForm {
		t.Errorf("%s: Seek(%q) = %d, %v", what, s, n, e)
	}
}

// P4.3, P4.5
func TestWhatWasBuiltIsParsed(t *testing.T) {
	for n := range mixed() {
		for _, l := range [][]api.Cell{mixed()[:n], mixed()[n:]} {
			if got := mustParse(t, mustBuild(t, l)); !slices.Equal(got, l) {
				t.Errorf("%d cells: %+v, want %+v", len(l), got, l)
			}
		}
	}
	for n := range 256 {
		if got := mustParse(t, mustBuild(t, numbered(n))); !slices.Equal(got, numbered(n)) {
			t.Errorf("%d cells", n)
		}
	}
}

// P4.3
func TestParseOfTooFewBytes(t *testing.T) {
	for _, l := range [][]api.Cell{mixed(), numbered(9)} {
		s := mustBuild(t, l)
		for n := range len(s) {
			refuse(t, "a beginning", s[:n])
		}
	}
	refuse(t, "nothing", "")
	refuse(t, "zeros for cells", strings.Repeat("\x01\x00", 100))
	refuse(t, "lengths alone", strings.Repeat("\xff", 4500))
}

// P4.3
func TestParseOfTooManyBytes(t *testing.T) {
	for _, l := range [][]api.Cell{nil, numbered(1), mixed()} {
		s := mustBuild(t, l)
		for _, more := range []string{"\x00", "x", s, s[1:] + "\x00", strings.Repeat("\x00", 300)} {
			refuse(t, "bytes behind", s+more)
		}
	}
}

// P4.3
func TestParseOfAnotherNumberOfCells(t *testing.T) {
	for _, l := range [][]api.Cell{nil, numbered(1), numbered(4), mixed(), numbered(255)} {
		s := mustBuild(t, l)
		for n := range 256 {
			if n != len(l) {
				refuse(t, "another number", string([]byte{byte(n)})+s[1:])
			}
		}
	}
}

// P4.3
func TestParseOfKeysThatAreNone(t *testing.T) {
	key := cell.Key(api.Cell{Row: "r", Col: "c"})
	times := strings.Repeat("\xff", 16)
	if got := mustParse(t, "\x01"+entry(0, key, 0, "v")); len(got) != 1 || got[0].Val != "v" {
		t.Error(got)
	}
	for _, bad := range []string{
		"", "r", key[:len(key)-1], key + "\x00", key[1:],
		"\x00\x01c\x00\x01" + times,
		"r\x00\x01\x00\x01" + times,
		"r\x00\x02c\x00\x01" + times,
		"r\x00c\x00\x01" + times,
		strings.Repeat("r", 41) + "\x00\x01c\x00\x01" + times,
		"r\x00\x01" + strings.Repeat("c", 41) + "\x00\x01" + times,
		strings.Repeat("r", 300) + "\x00\x01c\x00\x01" + times,
	} {
		refuse(t, "the first key", "\x01"+entry(0, bad, 0, "v"))
		refuse(t, "the second key", "\x02"+entry(0, "a"+key, 0, "v")+entry(slowShared("a"+key, bad), bad[slowShared("a"+key, bad):], 0, "v"))
	}
}

// P4.3
func TestParseOfValuesThatMayNotBe(t *testing.T) {
	key := cell.Key(api.Cell{Row: "r", Col: "c"})
	for _, x := range []struct {
		del byte
		val string
		is  bool
	}{
		{0, "", true}, {0, "v", true}, {0, strings.Repeat("v", 100), true}, {0, strings.Repeat("v", 101), false},
		{0, strings.Repeat("v", 255), false}, {1, "", true}, {1, "v", false}, {2, "", false}, {2, "v", false},
		{254, "", false}, {255, "", false}, {255, "v", false},
	} {
		s := "\x01" + entry(0, key, x.del, x.val)
		if !x.is {
			refuse(t, "a value", s)
			continue
		}
		want := []api.Cell{{Row: "r", Col: "c", Del: x.del == 1, Val: x.val}}
		if got := mustParse(t, s); !slices.Equal(got, want) {
			t.Errorf("%+v, want %+v", got, want)
		}
	}
}

// P4.3: a key that is told in other parts than Shared's is another text, that nothing builds.
func TestParseOfKeysThatShareOtherwise(t *testing.T) {
	l := numbered(6)
	for at := range l {
		for shared := range len(cell.Key(l[at])) + 1 {
			s := "\x06"
			right := 0
			for i, c := range l {
				own := 0
				if i%4 != 0 {
					own = slowShared(cell.Key(l[i-1]), cell.Key(c))
				}
				if i == at {
					right, own = own, shared
				}
				s += entry(own, cell.Key(c)[own:], 0, c.Val)
			}
			if shared != right {
				refuse(t, "another share", s)
			} else if got := mustParse(t, s); !slices.Equal(got, l) {
				t.Error(got)
			}
		}
	}
}

// P4.3: a restart may not share, though the key ahead of it would lend.
func TestParseOfARestartThatShares(t *testing.T) {
	l := numbered(5)
	s := mustBuild(t, l[:4])
	a, b := cell.Key(l[3]), cell.Key(l[4])
	shared := slowShared(a, b)
	if shared == 0 {
		t.Fatal("nothing is shared")
	}
	refuse(t, "a restart", "\x05"+s[1:]+entry(shared, b[shared:], 0, l[4].Val))
}

// P4.3
func TestParseOfMoreThanIsLent(t *testing.T) {
	key := cell.Key(api.Cell{Row: "r", Col: "c"})
	for _, shared := range []int{1, len(key), 255, 256, 65535} {
		refuse(t, "the first one", "\x01"+entry(shared, key, 0, ""))
	}
	for _, shared := range []int{len(key) + 1, 255, 256, 256 + 5, 65535} {
		refuse(t, "the second one", "\x02"+entry(0, key, 0, "")+entry(shared, "x", 0, ""))
	}
}

// P4.3
func TestParseOfCellsThatDoNotRise(t *testing.T) {
	for _, l := range [][]api.Cell{mixed(), numbered(10)} {
		for i := range len(l) - 1 {
			swapped := slices.Clone(l)
			swapped[i], swapped[i+1] = swapped[i+1], swapped[i]
			refuse(t, "cells that fall", slowBuild(swapped))
			refuse(t, "cells beside one another", slowBuild(slices.Insert(slices.Clone(l), i, l[i])))
		}
	}
}

// P4.3, P4.5: whatever is parsed is built again, to the byte; all that is one byte off is looked at.
func TestBytesAreOfOneListAlone(t *testing.T) {
	l := append(mixed()[3:11:11], api.Cell{Row: "b", Col: "c", Val: "v"})
	s := mustBuild(t, l)
	parsed := 0
	for i := range len(s) {
		for b := range 256 {
			bytes := []byte(s)
			bytes[i] = byte(b)
			other := string(bytes)
			got, e := block.Parse(other)
			if e != api.OK {
				if e != api.ErrForm || len(got) != 0 {
					t.Fatalf("byte %d as %d: %d cells, %v", i, b, len(got), e)
				}
				continue
			}
			parsed++
			if slowBuild(got) != other || mustBuild(t, got) != other {
				t.Errorf("byte %d as %d: %+v has other bytes", i, b, got)
			}
			if (other == s) != slices.Equal(got, l) {
				t.Errorf("byte %d as %d: %+v", i, b, got)
			}
		}
	}
	if parsed <= len(s) {
		t.Error("no other bytes are those of a block")
	}
}

// P4.5
func TestOtherListsHaveOtherBytes(t *testing.T) {
	seen := map[string]int{}
	l := mixed()
	for from := range l {
		for to := from + 1; to <= len(l); to++ {
			seen[mustBuild(t, l[from:to])]++
		}
	}
	for i := range l {
		other := slices.Clone(l)
		other[i].Val, other[i].Del = "other", false
		seen[mustBuild(t, other)]++
	}
	for s, n := range seen {
		if n > 1 {
			t.Errorf("%d lists have the bytes %q", n, s)
		}
	}
}

// P4.3
func TestParseAnswersNewMemory(t *testing.T) {
	s := mustBuild(t, mixed())
	for i := range mustParse(t, s) {
		mustParse(t, s)[i] = api.Cell{}
	}
	if got := mustParse(t, s); !slices.Equal(got, mixed()) {
		t.Error(got)
	}
}
