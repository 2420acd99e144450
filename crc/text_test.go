package crc_test

import (
	"slices"
	"strings"
	"testing"

	"rickyard/api"
	"rickyard/crc"
)

// told is what Put has to answer, written out by the rule.
func told(text string) string {
	length := string([]byte{byte(len(text)), byte(len(text) >> 8)})
	sum := slowSum(length + text)
	return length + string([]byte{byte(sum), byte(sum >> 8), byte(sum >> 16), byte(sum >> 24)}) + text
}

func put(t *testing.T, text string) string {
	t.Helper()
	s, e := crc.Put(text)
	if e != api.OK {
		t.Fatalf("Put of %d bytes: %d", len(text), e)
	}
	return s
}

func getFails(t *testing.T, s string, want api.Errno) {
	t.Helper()
	if text, n, e := crc.Get(s); text != "" || n != 0 || e != want {
		t.Errorf("Get of %d bytes %.20q = %.20q, %d, %d; want error %d", len(s), s, text, n, e, want)
	}
}

func allAre(t *testing.T, s string, want []string, bytes int) {
	t.Helper()
	if texts, n := crc.All(s); !slices.Equal(texts, want) || n != bytes {
		t.Errorf("All of %d bytes %.20q = %d texts, %d; want %d, %d", len(s), s, len(texts), n, len(want), bytes)
	}
}

// turned is s with one bit turned.
func turned(s string, bit int) string {
	out := []byte(s)
	out[bit/8] ^= 1 << (bit % 8)
	return string(out)
}

// P2.2
func TestPutToTheByte(t *testing.T) {
	for text, want := range map[string]string{
		"":   "\x00\x00\xff\x12\xd9\x41",
		"a":  "\x01\x00\xeb\xe2\x36\xc4" + "a",
		"ab": told("ab"),
		// A text of 256 bytes has its length's second byte set, and its first one not.
		strings.Repeat("x", 256): "\x00\x01" + told(strings.Repeat("x", 256))[2:],
	} {
		if got := put(t, text); got != want {
			t.Errorf("Put(%.20q) = %.20q, want %.20q", text, got, want)
		}
	}
	for _, text := range someTexts() {
		if len(text) > 65535 {
			continue
		}
		if got := put(t, text); got != told(text) {
			t.Errorf("Put of %d bytes %.20q = %.20q", len(text), text, got)
		}
	}
}

// P2.2
func TestPutOfTooMuch(t *testing.T) {
	if s := put(t, mixed(65535)); len(s) != 65541 || s[:2] != "\xff\xff" {
		t.Errorf("Put of 65535 bytes has %d bytes, %q ahead", len(s), s[:2])
	}
	for _, n := range []int{65536, 65537, 66000, 2 * 65536} {
		if s, e := crc.Put(mixed(n)); s != "" || e != api.ErrWide {
			t.Errorf("Put of %d bytes = %.20q, %d", n, s, e)
		}
	}
}

// P2.2, P2.4
func TestWhatWasPutIsGot(t *testing.T) {
	for _, text := range someTexts() {
		if len(text) > 65535 {
			continue
		}
		s := put(t, text)
		for _, behind := range []string{"", "\x00", "z", "\xff\xff\xff\xff\xff\xff\xff", s} {
			if got, n, e := crc.Get(s + behind); got != text || n != len(text)+6 || e != api.OK {
				t.Errorf("Get(Put of %d bytes %.20q) = %.20q, %d, %d", len(text), text, got, n, e)
			}
		}
	}
}

// P2.2: no bytes are told otherwise than too few of them.
func TestGetOfNothing(t *testing.T) {
	getFails(t, "", api.ErrNone)
}

// P2.2
func TestGetOfTooFewBytes(t *testing.T) {
	for _, text := range []string{"", "a", "123456789", mixed(300), mixed(65535)} {
		s := put(t, text)
		for n := 1; n < len(s); n += 1 + len(s)/1000 {
			getFails(t, s[:n], api.ErrShort)
		}
		getFails(t, s[:len(s)-1], api.ErrShort)
	}
	for n := 1; n < 6; n++ {
		getFails(t, strings.Repeat("\x00", n), api.ErrShort)
		getFails(t, strings.Repeat("\xff", n), api.ErrShort)
	}
}

// P2.2: of bytes that are too few, and of a wrong sum, the former is told.
func TestGetOfTooFewBytesWithAWrongSum(t *testing.T) {
	getFails(t, "\x01\x00\x00\x00\x00\x00", api.ErrShort)
	getFails(t, "\x00\x01\x00\x00\x00\x00"+strings.Repeat("x", 255), api.ErrShort)
	getFails(t, "\xff\xff\x00\x00\x00\x00"+mixed(65534), api.ErrShort)
}

// P2.2
func TestGetOfAnotherSum(t *testing.T) {
	getFails(t, "\x00\x00\x00\x00\x00\x00", api.ErrSum)
	getFails(t, "\x01\x00\x00\x00\x00\x00a", api.ErrSum)
	getFails(t, "\x00\x01\x00\x00\x00\x00"+strings.Repeat("x", 256), api.ErrSum)
	getFails(t, "\xff\xff\x00\x00\x00\x00"+mixed(65535), api.ErrSum)

	// The sum of the text alone, without its length, is another one.
	getFails(t, "\x09\x00\x26\x39\xf4\xcb123456789", api.ErrSum)
	// And so are the sum's bytes in another order.
	s := put(t, "123456789")
	getFails(t, s[:2]+string([]byte{s[5], s[4], s[3], s[2]})+s[6:], api.ErrSum)
}

// P2.2: what a smaller length leaves is not taken for the text.
func TestGetOfAnotherLength(t *testing.T) {
	s := put(t, "123456789")
	getFails(t, "\x08"+s[1:], api.ErrSum)
	getFails(t, "\x00"+s[1:], api.ErrSum)
	getFails(t, "\x0a"+s[1:], api.ErrShort)
	getFails(t, "\x0a"+s[1:]+"0", api.ErrSum)
	getFails(t, "\x09\x01"+s[2:], api.ErrShort)
}

// P2.4
func TestATurnedBitIsSeen(t *testing.T) {
	for _, text := range []string{"", "a", "\x00", "\xff\xff", "123456789", mixed(300)} {
		s := put(t, text)
		for bit := 16; bit < 8*len(s); bit++ {
			getFails(t, turned(s, bit), api.ErrSum)
			getFails(t, turned(s, bit)+s, api.ErrSum)
			allAre(t, s+turned(s, bit)+s, []string{text}, len(s))
		}
	}
	s := put(t, mixed(65535))
	for bit := 16; bit < 8*len(s); bit += 4999 {
		getFails(t, turned(s, bit), api.ErrSum)
	}
	getFails(t, turned(s, 8*len(s)-1), api.ErrSum)
}

// P2.3
func TestAllOfNothing(t *testing.T) {
	allAre(t, "", nil, 0)
}

// P2.3
func TestAllGoesOnUpToTheEnd(t *testing.T) {
	for _, texts := range [][]string{
		{""}, {"a"}, {"", "", ""}, {"ab", "", "ab"},
		{"123456789", mixed(300), "\x00", mixed(255), mixed(256), ""},
		{mixed(65535)}, {mixed(65535), "a", mixed(60000)},
	} {
		var s string
		for _, text := range texts {
			s += put(t, text)
		}
		allAre(t, s, texts, len(s))
	}
	texts := slices.Repeat([]string{"a", ""}, 5000)
	allAre(t, strings.Repeat(put(t, "a")+put(t, ""), 5000), texts, 13*5000)
}

// P2.3
func TestAllEndsAtTheFirstError(t *testing.T) {
	ab, none := put(t, "ab"), put(t, "")
	for _, wrong := range []string{"x", "\x00\x00\x00\x00\x00", turned(ab, 20), turned(none, 47), "\x00\x00\x00\x00\x00\x00", "\xff\xff"} {
		allAre(t, wrong, nil, 0)
		allAre(t, wrong+ab, nil, 0)
		allAre(t, none+wrong+none, []string{""}, 6)
		allAre(t, ab+none+ab+wrong+ab, []string{"ab", "", "ab"}, 22)
	}
}

// P2.4
func TestOfABeginningTheWholeTextsAreTold(t *testing.T) {
	texts := []string{"ab", "", "\x00\x00\x00", "123456789", "", mixed(300), "z"}
	var s string
	var ends []int
	for _, text := range texts {
		s += put(t, text)
		ends = append(ends, len(s))
	}
	for n := range len(s) + 1 {
		whole, bytes := 0, 0
		for whole < len(ends) && ends[whole] <= n {
			bytes = ends[whole]
			whole++
		}
		allAre(t, s[:n], texts[:whole], bytes)
	}
}

// P2.3: writing over what was answered changes nothing of the next answer.
func TestAllAnswersAreNew(t *testing.T) {
	s := put(t, "ab") + put(t, "c")
	texts, _ := crc.All(s)
	texts[0], texts[1] = "x", "y"
	allAre(t, s, []string{"ab", "c"}, len(s))
}
