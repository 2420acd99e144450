package parse

import (
	"strconv"
	"strings"

	"rickyard/api"
)

// look takes in one word of a line, and tells whether that word may stand there.
type look func(word string) bool

// read is the cell that a line tells, if it tells one.
func read(line string) (api.Cell, bool) {
	var c api.Cell
	looks := looksOf(&c)
	words := strings.Split(line, " ")
	if len(words) != len(looks) {
		return api.Cell{}, false
	}
	for i, word := range words {
		if !looks[i](word) {
			return api.Cell{}, false
		}
	}
	return c, true
}

// looksOf is the looks at a line's words, in their order; what they take in goes to c.
func looksOf(c *api.Cell) [4]look {
	return [4]look{
		func(word string) bool {
			c.Row = word
			return isName(word)
		},
		func(word string) bool {
			c.Col = word
			return isName(word)
		},
		func(word string) bool {
			ts, err := strconv.ParseUint(word, 10, 64)
			c.Ts = ts
			return err == nil && len(word) <= maxDigits
		},
		func(word string) bool {
			val, has := strings.CutPrefix(word, valueMark)
			if !has {
				c.Del = true
				return word == goneMark
			}
			c.Val = val
			return isValue(val)
		},
	}
}

// write is the line that tells c.
func write(c api.Cell) string {
	last := valueMark + c.Val
	if c.Del {
		last = goneMark
	}
	return c.Row + " " + c.Col + " " + digits(c.Ts) + " " + last + "\n"
}

// mayBeTold tells whether the line of c is one that read takes for c again.
func mayBeTold(c api.Cell) bool {
	return isName(c.Row) && !saysNothing(c.Row) && isName(c.Col) &&
		len(digits(c.Ts)) <= maxDigits &&
		isValue(c.Val) && !(c.Del && c.Val != "") &&
		c.Seq == 0
}

func digits(ts uint64) string { return strconv.FormatUint(ts, 10) }
