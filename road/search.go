package road

import (
	"cmp"
	"container/heap"
	"iter"

	"tonneau/api"
)

// search finds labels: earlier times are the better ones; later ones, if it goes back.
type search struct {
	back    bool
	labels  []api.Label
	settled []bool
	open    queue
}

// begin returns the search at whose beginning only one node is reached.
func begin(n, node, time int, back bool) *search {
	s := &search{back: back, labels: make([]api.Label, n), settled: make([]bool, n)}
	for i := range s.labels {
		s.labels[i] = api.Label{Time: -1, By: -1}
	}
	s.reach(node, time, -1)
	return s
}

// settle yields the nodes that are reached and their times, the best time first, of several nodes with it the one with the least number.
func (s *search) settle() iter.Seq2[int, int] {
	return func(yield func(node, time int) bool) {
		for s.open.Len() > 0 {
			node := heap.Pop(&s.open).(entry).node
			// A node that was reached several times has been settled at the best of its times.
			if s.settled[node] {
				continue
			}
			s.settled[node] = true
			if !yield(node, s.labels[node].Time) {
				return
			}
		}
	}
}

// reach notes that one is at a node at a time, by an arc, if this is a time, and nothing better is known of the node.
func (s *search) reach(node, time, by int) {
	l := api.Label{Time: time, By: by}
	if !isTime(time) || s.settled[node] || !s.isBetter(l, s.labels[node]) {
		return
	}
	s.labels[node] = l
	heap.Push(&s.open, entry{s.cost(time), node})
}

// isBetter reports whether the label of a node is better than the one that it has until now.
func (s *search) isBetter(l, old api.Label) bool {
	if l.Time == old.Time {
		return l.By < old.By
	}
	return old.Time == -1 || s.cost(l.Time) < s.cost(old.Time)
}

// cost is less for better times.
func (s *search) cost(time int) int {
	if s.back {
		return -time
	}
	return time
}

// entry is a node that is reached, and the cost of a time at which it is.
type entry struct{ cost, node int }

// queue is a heap of entries: the one that is to be settled is the first one.
type queue []entry

// Len is a method of heap.Interface.
func (q queue) Len() int { return len(q) }

// Less is a method of heap.Interface.
func (q queue) Less(i, j int) bool {
	return cmp.Or(cmp.Compare(q[i].cost, q[j].cost), cmp.Compare(q[i].node, q[j].node)) < 0
}

// Swap is a method of heap.Interface.
func (q queue) Swap(i, j int) { q[i], q[j] = q[j], q[i] }

// Push is a method of heap.Interface.
func (q *queue) Push(x any) { *q = append(*q, x.(entry)) }

// Pop is a method of heap.Interface.
func (q *queue) Pop() any {
	last := len(*q) - 1
	e := (*q)[last]
	*q = (*q)[:last]
	return e
}
