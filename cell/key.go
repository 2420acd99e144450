package cell

import "rickyard/api"

// A byte 0 of a name is told as 0 and 255, and a name ends by 0 and 1: so an end stands
// below all that may follow instead of it, and a name ahead of the longer ones that begin with it.
const (
	zero     = 0
	zeroMark = 255
	endMark  = 1
)

// wordBytes is how many bytes a Ts or a Seq takes.
const wordBytes = 8

// Key is bytes that stand as cells do, or "" if c may not be.
func Key(c api.Cell) string {
	if !May(c) {
		return ""
	}
	var key []byte
	for _, name := range namesOf(c) {
		key = appendMarked(key, name)
	}
	// Turned bits make greater numbers stand first, as Cmp has them.
	key = appendHighFirst(key, ^c.Ts)
	key = appendHighFirst(key, ^c.Seq)
	return string(key)
}

// FromKey is the cell, without a value, whose Key s is.
func FromKey(s string) (api.Cell, api.Errno) {
	var read names
	for i := range read {
		name, rest, ok := cutMarked(s)
		if !ok {
			return api.Cell{}, api.ErrArg
		}
		read[i], s = name, rest
	}
	if len(s) != 2*wordBytes {
		return api.Cell{}, api.ErrArg
	}
	c := api.Cell{
		Row: read[0],
		Col: read[1],
		Ts:  ^highFirst(s[:wordBytes]),
		Seq: ^highFirst(s[wordBytes:]),
	}
	if !May(c) {
		return api.Cell{}, api.ErrArg
	}
	return c, api.OK
}

func appendMarked(to []byte, name string) []byte {
	for i := range len(name) {
		to = append(to, name[i])
		if name[i] == zero {
			to = append(to, zeroMark)
		}
	}
	return append(to, zero, endMark)
}

// cutMarked reads a name as appendMarked writes it, and tells what is behind it.
func cutMarked(s string) (name, rest string, ok bool) {
	var read []byte
	for i := 0; i+1 < len(s); i++ {
		if s[i] != zero {
			read = append(read, s[i])
			continue
		}
		i++
		switch s[i] {
		case zeroMark:
			read = append(read, zero)
		case endMark:
			return string(read), s[i+1:], true
		default:
			return "", "", false
		}
	}
	return "", "", false
}

func appendHighFirst(to []byte, n uint64) []byte {
	for i := range wordBytes {
		to = append(to, byte(n>>(8*(wordBytes-1-i))))
	}
	return to
}

func highFirst(s string) uint64 {
	var n uint64
	for i := range len(s) {
		n = n<<8 | uint64(s[i])
	}
	return n
}
