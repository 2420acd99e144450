package parse_test

import (
	"hash/crc32"
	"math"
	"slices"
	"strings"
	"testing"

	"rickyard/api"
	"rickyard/parse"
)

// seen is a word of all bytes that a word may have.
func seen() string {
	var out []byte
	for b := 33; b < 127; b++ {
		out = append(out, byte(b))
	}
	return string(out)
}

func cellsAre(t *testing.T, s string, want ...api.Cell) {
	t.Helper()
	if l, n, e := parse.Cells(s); !slices.Equal(l, want) || n != 0 || e != api.OK {
		t.Errorf("Cells(%.60q) = %v, %d, %d; want %v", s, l, n, e, want)
	}
}

func cellsFail(t *testing.T, s string, line int, want api.Errno) {
	t.Helper()
	if l, n, e := parse.Cells(s); len(l) != 0 || n != line || e != want {
		t.Errorf("Cells(%.60q) = %v, %d, %d; want line %d, error %d", s, l, n, e, line, want)
	}
}

func printIs(t *testing.T, want string, l ...api.Cell) {
	t.Helper()
	if s, e := parse.Print(l); s != want || e != api.OK {
		t.Errorf("Print(%v) = %q, %d; want %q", l, s, e, want)
	}
}

func printFails(t *testing.T, l ...api.Cell) {
	t.Helper()
	if s, e := parse.Print(l); s != "" || e != api.ErrArg {
		t.Errorf("Print(%v) = %q, %d; want ErrArg", l, s, e)
	}
}

// P7.1
func TestWordByByte(t *testing.T) {
	for b := range 256 {
		want := b >= 33 && b <= 126
		one := string([]byte{byte(b)})
		for _, s := range []string{one, "a" + one, one + "z", "ab" + one + "yz", one + one} {
			if got := parse.Word(s); got != want {
				t.Errorf("Word(%q) = %t", s, got)
			}
		}
	}
}

// P7.1
func TestWordOfAnyLength(t *testing.T) {
	if parse.Word("") {
		t.Error("no byte is a word")
	}
	for _, s := range []string{seen(), "-", "=", "#", "#a", strings.Repeat("a", 4500)} {
		if !parse.Word(s) {
			t.Errorf("Word(%.60q) = false", s)
		}
	}
	for _, s := range []string{"é", "a b", " ", "\n", "a\n", "\ta", "a\x00", strings.Repeat("a", 4499) + " "} {
		if parse.Word(s) {
			t.Errorf("Word(%.60q) = true", s)
		}
	}
}

// P7.2: the chapter's example, and others of each kind of line.
func TestCellsOfOneLine(t *testing.T) {
	for line, want := range map[string]api.Cell{
		"r c 5 =v":                   {Row: "r", Col: "c", Ts: 5, Val: "v"},
		"r c 5 =":                    {Row: "r", Col: "c", Ts: 5},
		"r c 5 -":                    {Row: "r", Col: "c", Ts: 5, Del: true},
		"r c 5 =-":                   {Row: "r", Col: "c", Ts: 5, Val: "-"},
		"r c 5 ==":                   {Row: "r", Col: "c", Ts: 5, Val: "="},
		"r c 5 =#":                   {Row: "r", Col: "c", Ts: 5, Val: "#"},
		"- - 0 -":                    {Row: "-", Col: "-", Del: true},
		"= = 0 =":                    {Row: "=", Col: "="},
		"5 5 5 =5":                   {Row: "5", Col: "5", Ts: 5, Val: "5"},
		"r#r #c 1 =v":                {Row: "r#r", Col: "#c", Ts: 1, Val: "v"},
		"r c 0 =v":                   {Row: "r", Col: "c", Val: "v"},
		"r c 999999999999999999 =v":  {Row: "r", Col: "c", Ts: 999999999999999999, Val: "v"},
		"r c 100000000000000000 =v":  {Row: "r", Col: "c", Ts: 100000000000000000, Val: "v"},
		"r c 000000000000000000 =v":  {Row: "r", Col: "c", Val: "v"},
		"r c 000000000000000017 =v":  {Row: "r", Col: "c", Ts: 17, Val: "v"},
		"r c 08 =v":                  {Row: "r", Col: "c", Ts: 8, Val: "v"},
		"r c 5 =" + seen():           {Row: "r", Col: "c", Ts: 5, Val: seen()},
		seen()[4:40] + " c 5 -":      {Row: seen()[4:40], Col: "c", Ts: 5, Del: true},
		"r " + seen()[:40] + " 5 =v": {Row: "r", Col: seen()[:40], Ts: 5, Val: "v"},
		"r " + seen()[54:] + " 5 =v": {Row: "r", Col: seen()[54:], Ts: 5, Val: "v"},
	} {
		cellsAre(t, line, want)
		cellsAre(t, line+"\n", want)
		cellsAre(t, "\n"+line, want)
		cellsAre(t, line+"\n"+line, want, want)
	}
}

// P7.2: each of a line's parts at its limit, and one beyond it.
func TestCellsAtTheLimits(t *testing.T) {
	r, v := strings.Repeat("r", 40), strings.Repeat("v", 100)
	cellsAre(t, r+" "+r+" 5 ="+v, api.Cell{Row: r, Col: r, Ts: 5, Val: v})
	cellsFail(t, r+"r c 5 =v", 1, api.ErrLine)
	cellsFail(t, "r "+r+"r 5 =v", 1, api.ErrLine)
	cellsFail(t, "r c 5 ="+v+"v", 1, api.ErrLine)
	cellsFail(t, "r c 1000000000000000000 =v", 1, api.ErrLine)
	cellsFail(t, "r c 0000000000000000000 =v", 1, api.ErrLine)
	cellsFail(t, "r c "+strings.Repeat("0", 300)+" =v", 1, api.ErrLine)
	cellsFail(t, "r c "+strings.Repeat("9", 300)+" =v", 1, api.ErrLine)
	cellsFail(t, "r c 18446744073709551616 =v", 1, api.ErrLine)
}

// P7.2
func TestLinesThatSayNothing(t *testing.T) {
	for _, s := range []string{"", "\n", "\n\n\n", "#", "#\n", "##", "# r c 5 =v", "#r c 5 =v", "#\x00\xff\r\t ", "\n#a\n\n# b\n"} {
		cellsAre(t, s)
	}
	c := api.Cell{Row: "r", Col: "c", Ts: 5, Val: "v"}
	cellsAre(t, "#a\n\nr c 5 =v\n#b\n\nr c 5 =v\n\n", c, c)
}

// P7.2
func TestLinesThatAreNone(t *testing.T) {
	for _, line := range []string{
		// other than four words
		"r", "r c", "r c 5", "r c =v", "r c 5 =v x", "r c 5 =v -", "r c 5 - =v", "rc5=v", "r c 5=v",
		// other than one blank between
		" ", "   ", " r c 5 =v", "r c 5 =v ", "r  c 5 =v", "r c  5 =v", "r c 5  =v", "r c  =v", "r  5 =v", " c 5 =v",
		"r c 5 ", "r\tc\t5\t=v", "r c 5\t=v",
		// words with bytes that no word has
		"r\x1f c 5 =v", "r\x7f c 5 =v", "r\x80 c 5 =v", "\xff c 5 =v", "r c\x00 5 =v", "r é 5 =v", "r c 5 =\x7f", "r c 5 =v\x00", "r c 5 =é",
		"r c 5 =v\r", "r c 5 -\r", "r c 5 =a\tb", "\r", "\t",
		// other than digits
		"r c x =v", "r c +5 =v", "r c -5 =v", "r c 5x =v", "r c x5 =v", "r c 0x5 =v", "r c 1_0 =v", "r c 5.0 =v", "r c 1e3 =v", "r c ٥ =v", "r c - =v", "r c 5: =v", "r c 5/ =v",
		// other than a value, or gone
		"r c 5 v", "r c 5 -v", "r c 5 --", "r c 5 -=", "r c 5 -=v", "r c 5 +v", "r c 5 v=", "r c 5 #",
		// a note stands on a line of its own
		" #", " # a", "r c 5 =v # a", "r c 5 =v #",
	} {
		cellsFail(t, line, 1, api.ErrLine)
		cellsFail(t, "r c 5 =v\n"+line+"\nr c 5 =v", 2, api.ErrLine)
		cellsFail(t, "#\n\n\n"+line+"\n", 4, api.ErrLine)
		// The first one of several is told.
		cellsFail(t, "\n"+line+"\n"+line+"\nr", 2, api.ErrLine)
	}
}

// P7.2: all lines count for a line's number, whatever they say.
func TestTheNumberOfALine(t *testing.T) {
	for n := range 300 {
		ahead := strings.Repeat("a b 1 -\n#\n\n", n/3) + strings.Repeat("\n", n%3)
		cellsFail(t, ahead+"x", n+1, api.ErrLine)
		cellsFail(t, ahead+"x\nx", n+1, api.ErrLine)
	}
	cellsFail(t, strings.Repeat("\n", 3999)+"x", 4000, api.ErrLine)
}

// P7.2
func TestCellsOfTooMuch(t *testing.T) {
	line := "r c 5 =v\n"
	many := strings.Repeat(line, 444)
	c := api.Cell{Row: "r", Col: "c", Ts: 5, Val: "v"}
	cellsAre(t, many+"#234", slices.Repeat([]api.Cell{c}, 444)...)
	cellsFail(t, many+"#2345", 0, api.ErrWide)
	cellsAre(t, strings.Repeat("\n", 4000))
	cellsAre(t, "#"+strings.Repeat("a", 3999))
	for _, n := range []int{4001, 4002, 4500, 66000} {
		cellsFail(t, strings.Repeat("\n", n), 0, api.ErrWide)
		cellsFail(t, "#"+strings.Repeat("a", n-1), 0, api.ErrWide)
		// Of input that is too long, and a line that is none, the former is told.
		cellsFail(t, strings.Repeat("x", n), 0, api.ErrWide)
	}
	cellsFail(t, strings.Repeat("x", 4000), 1, api.ErrLine)
}

// P7.2: cells stand in the order of the lines, one for each, whatever they are.
func TestCellsKeepTheirOrder(t *testing.T) {
	cellsAre(t, "z c 1 =a\na c 2 -\nz c 1 =a\nz c 1 =b\n",
		api.Cell{Row: "z", Col: "c", Ts: 1, Val: "a"},
		api.Cell{Row: "a", Col: "c", Ts: 2, Del: true},
		api.Cell{Row: "z", Col: "c", Ts: 1, Val: "a"},
		api.Cell{Row: "z", Col: "c", Ts: 1, Val: "b"})
}

// P7.3
func TestPrintToTheByte(t *testing.T) {
	printIs(t, "")
	printIs(t, "r c 5 =v\n", api.Cell{Row: "r", Col: "c", Ts: 5, Val: "v"})
	printIs(t, "r c 0 =\n", api.Cell{Row: "r", Col: "c"})
	printIs(t, "r c 999999999999999999 -\n", api.Cell{Row: "r", Col: "c", Ts: 999999999999999999, Del: true})
	printIs(t, "- #c 10 =-\n= = 1 -\n= = 1 -\n",
		api.Cell{Row: "-", Col: "#c", Ts: 10, Val: "-"},
		api.Cell{Row: "=", Col: "=", Ts: 1, Del: true},
		api.Cell{Row: "=", Col: "=", Ts: 1, Del: true})
}

// P7.3
func TestPrintAtTheLimits(t *testing.T) {
	r, v := strings.Repeat("r", 40), strings.Repeat("v", 100)
	printIs(t, r+" "+r+" 5 ="+v+"\n", api.Cell{Row: r, Col: r, Ts: 5, Val: v})
	printFails(t, api.Cell{Row: r + "r", Col: "c"})
	printFails(t, api.Cell{Row: "r", Col: r + "r"})
	printFails(t, api.Cell{Row: "r", Col: "c", Val: v + "v"})
	printFails(t, api.Cell{Row: "r", Col: "c", Ts: 1000000000000000000})
	printFails(t, api.Cell{Row: "r", Col: "c", Ts: math.MaxUint64})

	// Lines may be more than what Cells takes.
	c := api.Cell{Row: "r", Col: "c", Ts: 5, Val: v}
	printIs(t, strings.Repeat("r c 5 ="+v+"\n", 300), slices.Repeat([]api.Cell{c}, 300)...)
}

// P7.3: whatever may not be told, and wherever it stands.
func TestPrintOfWhatMayNotBeTold(t *testing.T) {
	good := api.Cell{Row: "r", Col: "c", Ts: 5, Val: "v"}
	for _, c := range []api.Cell{
		{},
		{Col: "c"},
		{Row: "r"},
		{Row: "r ", Col: "c"},
		{Row: "r", Col: " c"},
		{Row: "r\n", Col: "c"},
		{Row: "r", Col: "c\x7f"},
		{Row: "é", Col: "c"},
		{Row: "#", Col: "c"},
		{Row: "#r", Col: "c"},
		{Row: "r", Col: "c", Val: " "},
		{Row: "r", Col: "c", Val: "a b"},
		{Row: "r", Col: "c", Val: "a\n"},
		{Row: "r", Col: "c", Val: "\x80"},
		{Row: "r", Col: "c", Del: true, Val: "v"},
		{Row: "r", Col: "c", Del: true, Val: "-"},
		{Row: "r", Col: "c", Seq: 1},
		{Row: "r", Col: "c", Del: true, Seq: math.MaxUint64},
	} {
		printFails(t, c)
		printFails(t, c, good)
		printFails(t, good, c)
		printFails(t, good, c, good)
	}
}

// P7.3
func TestSumOfAnInput(t *testing.T) {
	if got := parse.Sum("123456789"); got != 0xcbf43926 {
		t.Errorf("Sum(123456789) = %08x", got)
	}
	for _, s := range []string{"", "r c 5 =v\n", "no line", "\x00\xff", strings.Repeat("x", 4000), strings.Repeat("x", 4001)} {
		if got := parse.Sum(s); got != crc32.ChecksumIEEE([]byte(s)) {
			t.Errorf("Sum of %d bytes = %08x", len(s), got)
		}
	}
}
