package block

import (
	"rickyard/api"
	"rickyard/cell"
)

// How many bytes a number takes: the lengths of keys are wide, all others small.
const (
	smallBytes = 1
	wideBytes  = 2
)

// written is bytes that grow at their end.
type written []byte

// number writes n by some bytes, the lowest one first.
func (w *written) number(n, bytes int) {
	for i := range bytes {
		*w = append(*w, byte(n>>(8*i)))
	}
}

func (w *written) text(s string) {
	*w = append(*w, s...)
}

func (w *written) flag(is bool) {
	if is {
		w.number(1, smallBytes)
		return
	}
	w.number(0, smallBytes)
}

// writer writes cells one behind the other, and keeps the key of the last one, of which the
// next one may share the beginning.
type writer struct {
	written
	last string
}

func (w *writer) cell(place int, c api.Cell) {
	key := cell.Key(c)
	shared := Shared(lender(place, w.last), key)
	left := key[shared:]
	w.number(shared, wideBytes)
	w.number(len(left), wideBytes)
	w.text(left)
	w.flag(c.Del)
	w.number(len(c.Val), smallBytes)
	w.text(c.Val)
	w.last = key
}
