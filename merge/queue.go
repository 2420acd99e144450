package merge

import (
	"cmp"
	"container/heap"

	"rickyard/runs"
)

// left is what of a list has not been taken yet: one item at least.
type left []runs.Item

func (l left) first() runs.Item { return l[0] }

// waiting is a list that has items left, and which of all lists it is.
type waiting struct {
	left
	list int
}

// against is below 0, if what w has first is to be taken ahead of what v has first.
func (w waiting) against(v waiting) int {
	return cmp.Or(
		runs.Cmp(w.first(), v.first()),
		// Of items that stand beside each other the one of the earlier list counts.
		cmp.Compare(w.list, v.list),
	)
}

// queue is a heap: at its top is the list whose first item is to be taken next.
type queue []waiting

func (q queue) Len() int           { return len(q) }
func (q queue) Less(i, j int) bool { return q[i].against(q[j]) < 0 }
func (q queue) Swap(i, j int)      { q[i], q[j] = q[j], q[i] }
func (q *queue) Push(x any)        { *q = append(*q, x.(waiting)) }

func (q *queue) Pop() any {
	end := len(*q) - 1
	last := (*q)[end]
	*q = (*q)[:end]
	return last
}

// wait lets a list wait, unless nothing is left of it.
func (q *queue) wait(l left, list int) {
	if len(l) > 0 {
		heap.Push(q, waiting{left: l, list: list})
	}
}

// inOrder answers what takes the items of l, whose lists are sorted, one by one, in order; it
// answers false when all are taken.
func inOrder(l [][]runs.Item) func() (runs.Item, bool) {
	var q queue
	for i, list := range l {
		q.wait(list, i)
	}
	return func() (runs.Item, bool) {
		if q.Len() == 0 {
			return runs.Item{}, false
		}
		top := heap.Pop(&q).(waiting)
		q.wait(top.left[1:], top.list)
		return top.first(), true
	}
}
