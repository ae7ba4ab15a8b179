package label

import (
	"tonneau/api"
	"tonneau/clock"
)

// claim says that labels, one for each node, are those of the earliest times from a node at a start.
type claim struct {
	arcs        []api.Arc
	from, start int
	high        bool
	labels      []api.Label
}

// isSound reports whether one can be at each node that is reached at its time, by its arc.
func (c claim) isSound() bool {
	for node := range c.labels {
		if !c.follows(node) {
			return false
		}
	}
	return c.comesBack()
}

// isTight reports whether no arc leads anywhere earlier than the labels say.
func (c claim) isTight() bool {
	for _, a := range c.arcs {
		arrival := c.arrival(a)
		if isTime(arrival) && (!c.isReached(a.To) || c.labels[a.To].Time > arrival) {
			return false
		}
	}
	return true
}

// follows reports whether the label of a node follows from the one of the node before it.
func (c claim) follows(node int) bool {
	l := c.labels[node]
	if node == c.from {
		return l == api.Label{Time: c.start, By: -1}
	}
	if !c.isReached(node) {
		return l == api.Label{Time: -1, By: -1}
	}
	if !isTime(l.Time) || !isIndex(l.By, len(c.arcs)) {
		return false
	}
	a := c.arcs[l.By]
	return a.To == node && c.arrival(a) == l.Time
}

// comesBack reports whether one comes from each node that is reached back to the first one. Arcs that take no time can form a circle, on which each label follows from the one before it.
func (c claim) comesBack() bool {
	back := map[int]bool{c.from: true}
	for node := range c.labels {
		if c.isReached(node) && !c.goesBack(node, back) {
			return false
		}
	}
	return true
}

// goesBack reports whether one comes from a node that is reached back to the first one, and notes it of each node on the way.
func (c claim) goesBack(node int, back map[int]bool) bool {
	known, seen := back[node]
	if seen {
		return known
	}
	// Whoever comes here again before it is known goes in a circle.
	back[node] = false
	back[node] = c.goesBack(c.arcs[c.labels[node].By].From, back)
	return back[node]
}

// arrival returns when one arrives by an arc, from the time of its From on; -1, if one never is there.
func (c claim) arrival(a api.Arc) int {
	return clock.Pass(a, c.labels[a.From].Time, c.high)
}

// isReached reports whether one can be at a node.
func (c claim) isReached(node int) bool {
	return c.labels[node].Time != -1
}
