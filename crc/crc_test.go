package crc_test

import (
	"hash/crc32"
	"math"
	"strings"
	"testing"

	"rickyard/crc"
)

// slowSum is the document's rule, bit by bit.
func slowSum(s string) uint32 {
	word := uint32(math.MaxUint32)
	for _, b := range []byte(s) {
		word ^= uint32(b)
		for range 8 {
			odd := word%2 == 1
			word /= 2
			if odd {
				word ^= 0xedb88320
			}
		}
	}
	return ^word
}

// textOf is the text of four bytes whose Sum is sum: the rule's 32 steps, gone backwards.
func textOf(sum uint32) string {
	word := ^sum
	for range 32 {
		if word >= 1<<31 {
			word = (word^0xedb88320)<<1 | 1
		} else {
			word <<= 1
		}
	}
	word ^= math.MaxUint32
	return string([]byte{byte(word), byte(word >> 8), byte(word >> 16), byte(word >> 24)})
}

// mixed is n bytes of all values, in an order that has no short period.
func mixed(n int) string {
	out := make([]byte, n)
	word := uint32(n) + 1
	for i := range out {
		word = word*1664525 + 1013904223
		out[i] = byte(word >> 24)
	}
	return string(out)
}

func someTexts() []string {
	texts := []string{
		"", "123456789", "a", "\x00", "\x00\x00", "\xff", "\xff\xff\xff\xff", "\x80\x00", "Ω≠\n",
		strings.Repeat("\x00", 300), strings.Repeat("\xff", 300),
		mixed(4500), mixed(65535), mixed(65536), mixed(66000),
	}
	for b := range 256 {
		texts = append(texts, string([]byte{byte(b)}), string([]byte{byte(b), 0, byte(255 - b)}))
	}
	return texts
}

func someSums() []uint32 {
	sums := []uint32{0, 1, 2, 0xcbf43926, 0xedb88320, math.MaxInt32, 1 << 31, math.MaxUint32 - 1, math.MaxUint32}
	for i := range 32 {
		sums = append(sums, 1<<i, ^(1 << i))
	}
	return sums
}

// P2.1
func TestSumOfKnownTexts(t *testing.T) {
	for text, want := range map[string]uint32{
		"":                         0,
		"123456789":                0xcbf43926,
		"a":                        0xe8b7be43,
		"abc":                      0x352441c2,
		"\x00":                     0xd202ef8d,
		"\x00\x00\x00\x00":         0x2144df1c,
		"\xff\xff\xff\xff":         0xffffffff,
		strings.Repeat("\x00", 32): 0x190a55ad,
		strings.Repeat("\xff", 32): 0xff6cab0b,
	} {
		if got := crc.Sum(text); got != want {
			t.Errorf("Sum(%q) = %08x, want %08x", text, got, want)
		}
	}
}

// P2.1
func TestSumIsTheRule(t *testing.T) {
	for _, text := range someTexts() {
		got := crc.Sum(text)
		if want := slowSum(text); got != want {
			t.Errorf("Sum of %d bytes %.20q = %08x, want %08x", len(text), text, got, want)
		}
		if want := crc32.ChecksumIEEE([]byte(text)); got != want {
			t.Errorf("Sum of %d bytes %.20q = %08x, the library has %08x", len(text), text, got, want)
		}
	}
}

// P2.1
func TestMoreIsSumOfBoth(t *testing.T) {
	for _, text := range []string{"", "a", "123456789", mixed(300), strings.Repeat("\x00", 40)} {
		for at := range len(text) + 1 {
			if got := crc.More(crc.Sum(text[:at]), text[at:]); got != slowSum(text) {
				t.Errorf("More from byte %d of %.20q = %08x", at, text, got)
			}
		}
	}
	for _, text := range []string{mixed(65535), mixed(65536)} {
		for _, at := range []int{0, 1, 2, 32768, 65534, 65535} {
			if got := crc.More(crc.Sum(text[:at]), text[at:]); got != slowSum(text) {
				t.Errorf("More from byte %d of %d = %08x", at, len(text), got)
			}
		}
	}
}

// P2.1
func TestMoreGoesOnFromAnySum(t *testing.T) {
	for _, sum := range someSums() {
		ahead := textOf(sum)
		if got := crc.Sum(ahead); got != sum {
			t.Errorf("Sum(%q) = %08x, want %08x", ahead, got, sum)
		}
		if got := crc.More(sum, ""); got != sum {
			t.Errorf("More(%08x, no bytes) = %08x", sum, got)
		}
		for _, text := range []string{"a", "\x00", "\xff\xff", "123456789", mixed(300)} {
			got := crc.More(sum, text)
			if want := slowSum(ahead + text); got != want {
				t.Errorf("More(%08x, %.20q) = %08x, want %08x", sum, text, got, want)
			}
			if want := crc32.Update(sum, crc32.IEEETable, []byte(text)); got != want {
				t.Errorf("More(%08x, %.20q) = %08x, the library has %08x", sum, text, got, want)
			}
		}
	}
}

// P2.1: many pieces, as few as no byte each.
func TestMoreOfManyPieces(t *testing.T) {
	text := mixed(4500)
	for _, size := range []int{1, 2, 3, 7, 64, 4499, 4500, 4501} {
		sum := crc.Sum("")
		for left := text; left != ""; left = left[min(size, len(left)):] {
			sum = crc.More(sum, left[:min(size, len(left))])
			sum = crc.More(sum, "")
		}
		if sum != slowSum(text) {
			t.Errorf("More in pieces of %d = %08x", size, sum)
		}
	}
}
