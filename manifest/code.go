package manifest

import (
	"slices"

	"rickyard/api"
)

const (
	counterBytes = 8
	lengthBytes  = 1
	levelBytes   = 1
	manyBytes    = 2

	// maxList is the greatest length that its byte can tell.
	maxList = 1<<(8*lengthBytes) - 1
)

// Encode is the bytes of e.
func Encode(e Edit) (string, api.Errno) {
	if !allMay(e.Add) || slices.ContainsFunc(e.Del, func(name string) bool { return !mayName(name) }) {
		return "", api.ErrArg
	}
	if len(e.Add) > maxList || len(e.Del) > maxList {
		return "", api.ErrWide
	}
	var w writer
	w.number(e.Next, counterBytes)
	w.number(e.Flushed, counterBytes)
	w.number(uint64(len(e.Add)), lengthBytes)
	for _, f := range e.Add {
		w.file(f)
	}
	w.number(uint64(len(e.Del)), lengthBytes)
	for _, name := range e.Del {
		w.text(name)
	}
	return string(w.bytes), api.OK
}

// Decode is the edit whose bytes t is.
func Decode(t string) (Edit, api.Errno) {
	r := reader{left: t}
	e := Edit{Next: r.number(counterBytes), Flushed: r.number(counterBytes)}
	for range r.number(lengthBytes) {
		e.Add = append(e.Add, r.file())
	}
	for range r.number(lengthBytes) {
		e.Del = append(e.Del, r.text())
	}
	// The reader takes whatever comes, and no two edits have the same bytes: so this alone tells
	// all that may be wrong.
	if again, wrong := Encode(e); wrong != api.OK || again != t {
		return Edit{}, api.ErrForm
	}
	return e, api.OK
}

type writer struct{ bytes []byte }

// number lays many bytes of n down, the lowest one first.
func (w *writer) number(n uint64, many int) {
	for i := range many {
		w.bytes = append(w.bytes, byte(n>>(8*i)))
	}
}

func (w *writer) text(s string) {
	w.number(uint64(len(s)), lengthBytes)
	w.bytes = append(w.bytes, s...)
}

func (w *writer) file(f File) {
	w.number(uint64(f.Level), levelBytes)
	w.text(f.Name)
	w.text(f.Low)
	w.text(f.High)
	w.number(uint64(f.Many), manyBytes)
}

// reader reads what a writer wrote; where bytes are missing it takes what is left.
type reader struct{ left string }

func (r *reader) take(many int) string {
	many = min(many, len(r.left))
	s := r.left[:many]
	r.left = r.left[many:]
	return s
}

func (r *reader) number(many int) uint64 {
	var n uint64
	for i, b := range []byte(r.take(many)) {
		n |= uint64(b) << (8 * i)
	}
	return n
}

func (r *reader) text() string {
	return r.take(int(r.number(lengthBytes)))
}

func (r *reader) file() File {
	return File{
		Level: int(r.number(levelBytes)),
		Name:  r.text(),
		Low:   r.text(),
		High:  r.text(),
		Many:  int(r.number(manyBytes)),
	}
}
