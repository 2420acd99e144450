package view

import "rickyard/api"

// hider tells of cells whether they hide c.
func hider(c api.Cell) func(d api.Cell) bool {
	return func(d api.Cell) bool {
		return d.Row == c.Row && d.Col == c.Col && d.Seq > c.Seq &&
			(d.Ts == c.Ts || d.Del && d.Ts > c.Ts)
	}
}

// coverer tells of cells whether they cover c for all reads at floor, and at later sequences.
func coverer(c api.Cell, floor uint64) func(d api.Cell) bool {
	hides := hider(c)
	return func(d api.Cell) bool {
		return d.Seq <= floor && (d.Del || !c.Del) && hides(d)
	}
}
