package block

import (
	"iter"

	"rickyard/api"
	"rickyard/cell"
)

// entry is a cell of a block, with its key.
type entry struct {
	api.Cell
	key string
}

// entries goes through the cells of s. It ends by ErrForm as soon as s is seen to be no block.
func entries(s string) iter.Seq2[entry, api.Errno] {
	return func(yield func(entry, api.Errno) bool) {
		r := reader{left: s}
		last := ""
		for place := range r.number(smallBytes) {
			next, ok := r.entry(lender(place, last))
			if !ok || next.key <= last {
				yield(entry{}, api.ErrForm)
				return
			}
			if !yield(next, api.OK) {
				return
			}
			last = next.key
		}
		if r.short || r.left != "" {
			yield(entry{}, api.ErrForm)
		}
	}
}

// reader takes bytes from the beginning of left. Once they are too few, all that is read is
// nothing, so that only the end has to ask.
type reader struct {
	left  string
	short bool
}

func (r *reader) text(n int) string {
	r.short = r.short || len(r.left) < n
	if r.short {
		return ""
	}
	taken := r.left[:n]
	r.left = r.left[n:]
	return taken
}

// number is what written's number wrote.
func (r *reader) number(bytes int) int {
	taken := r.text(bytes)
	n := 0
	for i := range len(taken) {
		n |= int(taken[i]) << (8 * i)
	}
	return n
}

// entry reads what writer's cell wrote, behind the key that lends; it is not ok, if nothing is
// written so.
func (r *reader) entry(lends string) (next entry, ok bool) {
	shared := r.number(wideBytes)
	left := r.text(r.number(wideBytes))
	del := r.number(smallBytes)
	val := r.text(r.number(smallBytes))
	if r.short || shared > len(lends) || del > 1 {
		return entry{}, false
	}
	key := lends[:shared] + left
	// A key that tells again what it could share has other bytes than those that are built.
	if Shared(lends, key) != shared {
		return entry{}, false
	}
	c, e := cell.FromKey(key)
	if e != api.OK {
		return entry{}, false
	}
	c.Del = del == 1
	c.Val = val
	if !cell.May(c) {
		return entry{}, false
	}
	return entry{Cell: c, key: key}, true
}
