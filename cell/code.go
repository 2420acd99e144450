package cell

import "rickyard/api"

// Encode is the bytes of c.
func Encode(c api.Cell) (string, api.Errno) {
	if !May(c) {
		return "", api.ErrArg
	}
	var out []byte
	for _, name := range namesOf(c) {
		out = appendText(out, name)
	}
	out = appendLowFirst(out, c.Ts)
	out = appendLowFirst(out, c.Seq)
	out = appendFlag(out, c.Del)
	out = appendText(out, c.Val)
	return string(out), api.OK
}

// Decode is the cell at the beginning of s, and what is behind it.
func Decode(s string) (api.Cell, string, api.Errno) {
	r := reader{left: s}
	var read names
	for i := range read {
		read[i] = r.text()
	}
	c := api.Cell{Row: read[0], Col: read[1]}
	c.Ts = r.lowFirst()
	c.Seq = r.lowFirst()
	c.Del = r.flag()
	c.Val = r.text()
	if r.e == api.OK && !May(c) {
		r.e = api.ErrArg
	}
	if r.e != api.OK {
		return api.Cell{}, "", r.e
	}
	return c, r.left, api.OK
}

// appendText takes texts whose length is a byte: those of cells that may be.
func appendText(to []byte, text string) []byte {
	to = append(to, byte(len(text)))
	return append(to, text...)
}

func appendLowFirst(to []byte, n uint64) []byte {
	for i := range wordBytes {
		to = append(to, byte(n>>(8*i)))
	}
	return to
}

func appendFlag(to []byte, is bool) []byte {
	if is {
		return append(to, 1)
	}
	return append(to, 0)
}

// reader takes bytes from the beginning of left. Its first error stays, and all that is
// read from then on is nothing, so that only the end has to ask.
type reader struct {
	left string
	e    api.Errno
}

func (r *reader) take(n int) string {
	if r.e == api.OK && len(r.left) < n {
		r.e = api.ErrShort
	}
	if r.e != api.OK {
		return ""
	}
	taken := r.left[:n]
	r.left = r.left[n:]
	return taken
}

// small is the next byte, as a number.
func (r *reader) small() int {
	taken := r.take(1)
	if r.e != api.OK {
		return 0
	}
	return int(taken[0])
}

func (r *reader) text() string {
	return r.take(r.small())
}

func (r *reader) lowFirst() uint64 {
	taken := r.take(wordBytes)
	var n uint64
	for i := range len(taken) {
		n |= uint64(taken[i]) << (8 * i)
	}
	return n
}

func (r *reader) flag() bool {
	n := r.small()
	if n > 1 {
		r.e = api.ErrArg
	}
	return n == 1
}
