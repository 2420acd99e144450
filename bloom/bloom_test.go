package bloom_test

import (
	"hash/crc32"
	"math"
	"slices"
	"strconv"
	"strings"
	"testing"

	"rickyard/api"
	"rickyard/bloom"
)

// slowPlaces is the document's rule, with numbers that never wrap round by themselves.
func slowPlaces(name string, many int) []int {
	a := uint64(crc32.ChecksumIEEE([]byte(name)))
	b := uint64(crc32.ChecksumIEEE([]byte(name + "\x01")))
	var places []int
	for i := range uint64(4) {
		places = append(places, int((a+i*b)%(1<<32)%uint64(many)))
	}
	return places
}

// slowFilter is the document's filter, one bool a bit.
func slowFilter(names []string, size int) string {
	bits := make([]bool, 8*size)
	for _, name := range names {
		for _, place := range slowPlaces(name, len(bits)) {
			bits[place] = true
		}
	}
	bytes := make([]byte, size)
	for place, one := range bits {
		if one {
			bytes[place/8] += []byte{1, 2, 4, 8, 16, 32, 64, 128}[place%8]
		}
	}
	return string(bytes)
}

func someNames() []string {
	names := []string{"", "row", "a", "b", "\x00", "\x01", "a\x01", "\xff\xfe", "Ω≠\n", strings.Repeat("x", 300)}
	for b := range 256 {
		names = append(names, string([]byte{'n', byte(b)}))
	}
	return names
}

func numbered(n int) []string {
	names := make([]string, n)
	for i := range names {
		names[i] = "row" + strconv.Itoa(i)
	}
	return names
}

func mustMake(t *testing.T, names []string, bits int) string {
	t.Helper()
	filter, e := bloom.Make(names, bits)
	if e != api.OK {
		t.Fatalf("Make(%d names, %d): %v", len(names), bits, e)
	}
	return filter
}

// P3.1
func TestBitsAreFourOfTheRule(t *testing.T) {
	sizes := []int{1, 2, 3, 7, 8, 64, 80, 1000, 16000, 128000, 1<<31 - 1, 1 << 31, 1<<32 - 1, 1 << 32, 1<<32 + 1, math.MaxInt}
	for _, name := range someNames() {
		for _, many := range sizes {
			if got, want := bloom.Bits(name, many), slowPlaces(name, many); !slices.Equal(got, want) {
				t.Fatalf("Bits(%q, %d) = %v, want %v", name, many, got, want)
			}
		}
	}
}

// P3.1: the rule of the sum wraps round at 2^32; some name has to show it where many is no power of two.
func TestBitsWrapRound(t *testing.T) {
	differ := 0
	for _, name := range someNames() {
		a := uint64(crc32.ChecksumIEEE([]byte(name)))
		b := uint64(crc32.ChecksumIEEE([]byte(name + "\x01")))
		if int((a+3*b)%1000) != bloom.Bits(name, 1000)[3] {
			differ++
		}
	}
	if differ == 0 {
		t.Error("no name whose sum wraps round")
	}
}

// P3.1
func TestBitsAmongNone(t *testing.T) {
	for _, many := range []int{0, -1, -8, math.MinInt} {
		if l := bloom.Bits("row", many); len(l) != 0 {
			t.Errorf("Bits(row, %d) = %v", many, l)
		}
	}
}

// P3.1
func TestBitsAnswersNewMemory(t *testing.T) {
	l := bloom.Bits("row", 1000)
	l[0] = -1
	if got := bloom.Bits("row", 1000); !slices.Equal(got, slowPlaces("row", 1000)) {
		t.Error(got)
	}
}

// P3.2
func TestMakeWrongNumberOfBits(t *testing.T) {
	for _, bits := range []int{0, -1, 65, math.MinInt, math.MaxInt} {
		// With too many names ErrArg is still the one named first.
		for _, names := range [][]string{nil, {"a"}, numbered(2001)} {
			if s, e := bloom.Make(names, bits); s != "" || e != api.ErrArg {
				t.Errorf("Make(%d names, %d) = %q, %v", len(names), bits, s, e)
			}
		}
	}
}

// P3.2
func TestMakeTooManyNames(t *testing.T) {
	for _, names := range [][]string{make([]string, 2001), numbered(2001), numbered(5000)} {
		for _, bits := range []int{1, 10, 64} {
			if s, e := bloom.Make(names, bits); s != "" || e != api.ErrWide {
				t.Errorf("Make(%d names, %d) = %d bytes, %v", len(names), bits, len(s), e)
			}
		}
	}
}

// P3.2
func TestMakeLength(t *testing.T) {
	cases := []struct{ names, bits, bytes int }{
		{0, 10, 8}, {0, 64, 8}, {1, 1, 8}, {1, 64, 8}, {2, 64, 16},
		{64, 1, 8}, {65, 1, 9}, {72, 1, 9}, {73, 1, 10},
		{9, 7, 8}, {8, 8, 8}, {13, 5, 9}, {7, 10, 9}, {8, 10, 10},
		{2000, 1, 250}, {1999, 1, 250}, {2000, 64, 16000},
	}
	for _, c := range cases {
		if n := len(mustMake(t, numbered(c.names), c.bits)); n != c.bytes {
			t.Errorf("Make(%d names, %d): %d bytes, want %d", c.names, c.bits, n, c.bytes)
		}
	}
}

// P3.2
func TestMakeLengthCountsNamesThatComeTwice(t *testing.T) {
	twice := slices.Repeat([]string{"a"}, 100)
	if got, want := mustMake(t, twice, 10), slowFilter([]string{"a"}, 125); got != want {
		t.Errorf("%x, want %x", got, want)
	}
}

// P3.2
func TestMakeSetsTheBitsOfItsNames(t *testing.T) {
	lists := [][]string{nil, {}, {""}, {"row"}, {"a", "b"}, {"\x00", "\xff"}, someNames(), numbered(300), numbered(2000)}
	for _, names := range lists {
		for _, bits := range []int{1, 2, 7, 8, 9, 10, 63, 64} {
			got := mustMake(t, names, bits)
			if want := slowFilter(names, len(got)); got != want {
				t.Errorf("Make(%d names, %d) = %x, want %x", len(names), bits, got, want)
			}
		}
	}
}

// P3.2
func TestMakeLeavesItsNames(t *testing.T) {
	names := []string{"b", "a", "b", ""}
	kept := slices.Clone(names)
	mustMake(t, names, 10)
	if !slices.Equal(names, kept) {
		t.Error(names)
	}
}

// P3.3
func TestMayOfNoBytes(t *testing.T) {
	for _, name := range someNames() {
		if !bloom.May("", name) {
			t.Errorf("May of none, %q", name)
		}
	}
}

// P3.3
func TestMayAsksForAllBits(t *testing.T) {
	for _, size := range []int{1, 3, 8, 10, 4500} {
		zeros, ones := strings.Repeat("\x00", size), strings.Repeat("\xff", size)
		for _, name := range someNames() {
			if bloom.May(zeros, name) || !bloom.May(ones, name) {
				t.Fatalf("%q among bits all alike, of %d bytes", name, size)
			}
			own := slowFilter([]string{name}, size)
			if !bloom.May(own, name) {
				t.Fatalf("%q among its own bits, of %d bytes", name, size)
			}
			for _, place := range slowPlaces(name, 8*size) {
				lacking := []byte(ones)
				lacking[place/8] &^= 1 << (place % 8)
				if bloom.May(string(lacking), name) {
					t.Fatalf("%q without its bit %d, of %d bytes", name, place, size)
				}
			}
		}
	}
}

// P3.3
func TestMayTellsMostOfWhatIsNotThere(t *testing.T) {
	filter := mustMake(t, numbered(300), 10)
	may := 0
	for i := range 1000 {
		if bloom.May(filter, "other"+strconv.Itoa(i)) {
			may++
		}
	}
	if may > 50 {
		t.Errorf("%d of 1000 names may be there", may)
	}
}

// P3.3
func TestFull(t *testing.T) {
	cases := []struct {
		filter string
		ones   int
	}{
		{"", 0}, {"\x00", 0}, {"\x01", 1}, {"\x80", 1}, {"\xff", 8}, {"\xf0\x0f", 8},
		{"\xaa\x55\x00\x01", 9}, {strings.Repeat("\x00", 300), 0}, {strings.Repeat("\xff", 4500), 36000},
	}
	for _, c := range cases {
		if n := bloom.Full(c.filter); n != c.ones {
			t.Errorf("Full(%x) = %d, want %d", c.filter, n, c.ones)
		}
	}
	for b := range 256 {
		if n, want := bloom.Full(string([]byte{byte(b)})), strings.Count(strconv.FormatInt(int64(b), 2), "1"); n != want {
			t.Errorf("Full(%x) = %d, want %d", b, n, want)
		}
	}
}

// P3.4
func TestNoNameIsMissed(t *testing.T) {
	for _, names := range [][]string{{""}, {"row"}, someNames(), numbered(300), numbered(2000)} {
		for _, bits := range []int{1, 3, 10, 64} {
			filter := mustMake(t, names, bits)
			for _, name := range names {
				if !bloom.May(filter, name) {
					t.Errorf("%q is missed of %d names with %d bits", name, len(names), bits)
				}
			}
			if bloom.Full(filter) > 4*len(names) {
				t.Errorf("%d bits of %d names", bloom.Full(filter), len(names))
			}
		}
	}
}

// P3.4
func TestWithMoreNamesNoBitGoes(t *testing.T) {
	names := numbered(64)
	last := mustMake(t, nil, 1)
	for n := range names {
		next := mustMake(t, names[:n+1], 1)
		for i := range len(last) {
			if last[i]&^next[i] != 0 {
				t.Fatalf("byte %d: %08b, with one name more %08b", i, last[i], next[i])
			}
		}
		if bloom.Full(next) < bloom.Full(last) {
			t.Fatal(n)
		}
		last = next
	}
}

// P3.4
func TestTheOrderOfNamesCountsNothing(t *testing.T) {
	names := someNames()
	backwards := slices.Clone(names)
	slices.Reverse(backwards)
	turned := append(slices.Clone(names[100:]), names[:100]...)
	want := mustMake(t, names, 10)
	for _, l := range [][]string{backwards, turned} {
		if mustMake(t, l, 10) != want {
			t.Error("another order, another filter")
		}
	}
}
