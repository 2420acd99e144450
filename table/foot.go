package table

import (
	"rickyard/api"
	"rickyard/crc"
)

const (
	countBytes  = 2
	lengthBytes = 4
	seqBytes    = 8

	// footText is how many bytes a foot takes: its own, and six of its length and its sum.
	footText = 6 + 3*lengthBytes + seqBytes
)

// foot tells where the parts of a file end, and its sequence.
type foot struct {
	allBytes, indexBytes, filterBytes uint64
	seq                               uint64
}

// over is c as it is read.
func (f foot) over(c api.Cell) api.Cell {
	if f.seq != 0 {
		c.Seq = f.seq
	}
	return c
}

// text is f's bytes, with their sum.
func (f foot) text() string {
	var s []byte
	for _, n := range [...]uint64{f.allBytes, f.indexBytes, f.filterBytes} {
		s = appendNumber(s, n, lengthBytes)
	}
	return put(string(appendNumber(s, f.seq, seqBytes)))
}

// footOf is the foot that s ends with.
func footOf(s string) (foot, api.Errno) {
	if len(s) < footText {
		return foot{}, api.ErrSum
	}
	text, n, e := crc.Get(s[len(s)-footText:])
	if e != api.OK {
		return foot{}, api.ErrSum
	}
	// A shorter text has its sum as well, but is no foot.
	if n < footText {
		return foot{}, api.ErrForm
	}
	var lengths [3]uint64
	for i := range lengths {
		lengths[i], text = number(text[:lengthBytes]), text[lengthBytes:]
	}
	return foot{allBytes: lengths[0], indexBytes: lengths[1], filterBytes: lengths[2], seq: number(text)}, api.OK
}

// appendNumber lays many bytes of n behind to, the lowest one first.
func appendNumber(to []byte, n uint64, many int) []byte {
	for i := range many {
		to = append(to, byte(n>>(8*i)))
	}
	return to
}

// number is the number that appendNumber wrote.
func number(s string) uint64 {
	var n uint64
	for i := range len(s) {
		n |= uint64(s[i]) << (8 * i)
	}
	return n
}
