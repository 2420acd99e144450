package table

import (
	"slices"
	"strings"

	"rickyard/api"
	"rickyard/block"
	"rickyard/bloom"
	"rickyard/cell"
	"rickyard/crc"
)

// Build is the file of l, with seq as its sequence.
func Build(l []api.Cell, seq uint64) (string, api.Errno) {
	if len(l) > api.MaxCells {
		return "", api.ErrWide
	}
	if len(l) == 0 {
		return "", api.ErrArg
	}
	blocks, e := blocksOf(l)
	if e != api.OK {
		return "", e
	}
	// A block is built of its own cells alone, and so does not see the one ahead of them.
	if !cell.Rising(l) {
		return "", api.ErrOrder
	}
	all, index, filter := strings.Join(blocks, ""), indexOf(blocks), filterOf(l)
	f := foot{
		allBytes:    uint64(len(all)),
		indexBytes:  uint64(len(index)),
		filterBytes: uint64(len(filter)),
		seq:         seq,
	}
	return all + index + filter + f.text(), api.OK
}

// Open is the file whose Build s is.
func Open(s string) (*Table, api.Errno) {
	f, e := footOf(s)
	if e != api.OK {
		return nil, e
	}
	if f.allBytes > uint64(len(s)) {
		return nil, api.ErrForm
	}
	l, e := cellsOf(s[:f.allBytes])
	if e != api.OK {
		return nil, e
	}
	// What is not built again, to the byte, was never built: the index and the filter need no
	// look of their own.
	if again, _ := Build(l, f.seq); again != s {
		return nil, api.ErrForm
	}
	filter, _, _ := crc.Get(s[f.allBytes+f.indexBytes:])
	return &Table{foot: f, cells: l, filter: filter}, api.OK
}

// Stamp is the file s with seq as its sequence.
func Stamp(s string, seq uint64) (string, api.Errno) {
	t, e := Open(s)
	if e != api.OK {
		return "", e
	}
	t.seq = seq
	return s[:len(s)-footText] + t.text(), api.OK
}

// blocksOf is the texts of all blocks of l.
func blocksOf(l []api.Cell) ([]string, api.Errno) {
	var texts []string
	for _, part := range parts(l, api.Block) {
		b, e := block.Build(part)
		if e != api.OK {
			return nil, e
		}
		texts = append(texts, put(b))
	}
	return texts, api.OK
}

// cellsOf is the cells of blocks, up to the first text that is none: what is behind it is missing
// then in what is built again.
func cellsOf(blocks string) ([]api.Cell, api.Errno) {
	var l []api.Cell
	texts, _ := crc.All(blocks)
	for _, text := range texts {
		part, e := block.Parse(text)
		if e != api.OK {
			return nil, e
		}
		l = append(l, part...)
	}
	return l, api.OK
}

func indexOf(blocks []string) string {
	index := appendNumber(nil, uint64(len(blocks)), countBytes)
	for _, text := range blocks {
		index = appendNumber(index, uint64(len(text)), lengthBytes)
	}
	return put(string(index))
}

// filterOf is the text of the filter of the rows of l, which rise.
func filterOf(l []api.Cell) string {
	rows := make([]string, len(l))
	for i, c := range l {
		rows[i] = c.Row
	}
	// No error: there are not more rows than cells, and Bits is a number of bits that may be.
	filter, _ := bloom.Make(slices.Compact(rows), api.Bits)
	return put(filter)
}

// put is text with its sum. There is no error: the longest text of a file is the filter of MaxCells
// rows, 2500 bytes.
func put(text string) string {
	s, _ := crc.Put(text)
	return s
}
