package mem

import (
	"iter"

	"rickyard/api"
	"rickyard/cell"
)

// node of a tree: the cells of left stand ahead of its cell, those of right behind it.
//
// Levels keep the tree flat, in whatever order cells come: a left node's is one less than that of
// the node above it, a right node's the same or one less, and of three nodes, each to the right
// below the one ahead, the levels are never all the same. A missing node has the level 0.
type node struct {
	cell        api.Cell
	level       int
	left, right *node
}

// with is the tree of n with c, which is not in it yet.
func (n *node) with(c api.Cell) *node {
	if n == nil {
		return &node{cell: c, level: 1}
	}
	if cell.Cmp(c, n.cell) < 0 {
		n.left = n.left.with(c)
	} else {
		n.right = n.right.with(c)
	}
	return n.skew().split()
}

// skew lifts the left node, if its level is that of n, above n.
func (n *node) skew() *node {
	up := n.left
	if up == nil || up.level < n.level {
		return n
	}
	n.left, up.right = up.right, n
	return up
}

// split lifts the right node, if the one to the right below it has the level of n, above n, and a
// level up.
func (n *node) split() *node {
	up := n.right
	if up == nil || up.right == nil || up.right.level < n.level {
		return n
	}
	n.right, up.left = up.left, n
	up.level++
	return up
}

// stretch goes through those cells of the tree, in order, of which where tells 0. It tells -1 of
// all cells ahead of these, and 1 of all behind them, so that it is asked of few others.
func (n *node) stretch(where func(c api.Cell) int) iter.Seq[api.Cell] {
	return func(yield func(api.Cell) bool) {
		if n == nil {
			return
		}
		at := where(n.cell)
		if at >= 0 {
			for c := range n.left.stretch(where) {
				if !yield(c) {
					return
				}
			}
		}
		if at == 0 && !yield(n.cell) {
			return
		}
		if at <= 0 {
			for c := range n.right.stretch(where) {
				if !yield(c) {
					return
				}
			}
		}
	}
}
