package crc

import (
	"iter"

	"rickyard/api"
)

// A text that was put has its length ahead, then the sum of length and text, then the text.
const (
	lengthBytes = 2
	sumBytes    = 4
	headBytes   = lengthBytes + sumBytes

	// maxText is the greatest length that its bytes can tell.
	maxText = 1<<(8*lengthBytes) - 1
)

// Put is s with its length and its sum ahead.
func Put(s string) (string, api.Errno) {
	if len(s) > maxText {
		return "", api.ErrWide
	}
	length := lowFirst(uint32(len(s)), lengthBytes)
	return length + lowFirst(sumOf(length, s), sumBytes) + s, api.OK
}

// Get is the text that was put at the beginning of s, and how many bytes it takes there.
func Get(s string) (string, int, api.Errno) {
	if s == "" {
		return "", 0, api.ErrNone
	}
	if len(s) < headBytes {
		return "", 0, api.ErrShort
	}
	length, sum, behind := s[:lengthBytes], s[lengthBytes:headBytes], s[headBytes:]
	n := int(number(length))
	if len(behind) < n {
		return "", 0, api.ErrShort
	}
	text := behind[:n]
	if sumOf(length, text) != number(sum) {
		return "", 0, api.ErrSum
	}
	return text, headBytes + n, api.OK
}

// All is the texts that were put one behind the other, up to the first one that Get does not
// answer, and how many bytes they take.
func All(s string) ([]string, int) {
	var texts []string
	taken := 0
	for text, n := range each(s) {
		texts = append(texts, text)
		taken += n
	}
	return texts, taken
}

// each goes through the texts of s, each with how many bytes it takes.
func each(s string) iter.Seq2[string, int] {
	return func(yield func(string, int) bool) {
		left := s
		for {
			text, n, e := Get(left)
			if e != api.OK || !yield(text, n) {
				return
			}
			left = left[n:]
		}
	}
}

// sumOf takes in the length too: else a text could be cut, or grow, unseen.
func sumOf(length, text string) uint32 {
	return More(Sum(length), text)
}

func lowFirst(n uint32, bytes int) string {
	var out []byte
	for i := range bytes {
		out = append(out, byte(n>>(8*i)))
	}
	return string(out)
}

// number is what lowFirst wrote.
func number(s string) uint32 {
	var n uint32
	for i := range len(s) {
		n |= uint32(s[i]) << (8 * i)
	}
	return n
}
