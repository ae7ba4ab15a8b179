package road

import (
	"tonneau/api"
	"tonneau/clock"
)

// The chapter, word for word.

func modelRight(n int, arcs []api.Arc) bool {
	if !(1 <= n && n <= 2000) || len(arcs) > 20000 {
		return false
	}
	for _, a := range arcs {
		if !clock.Right(a) || !(a.From < n) || !(a.To < n) {
			return false
		}
	}
	return true
}

// unreached returns the labels of n nodes that are not reached.
func unreached(n int) []api.Label {
	labels := make([]api.Label, n)
	for node := range labels {
		labels[node] = api.Label{Time: -1, By: -1}
	}
	return labels
}

// modelEarly returns the labels of the earliest times, and in which order the nodes were settled.
func modelEarly(n int, arcs []api.Arc, from, start int, high bool) ([]api.Label, []int) {
	labels, reached, settled := unreached(n), make([]bool, n), make([]bool, n)
	labels[from].Time, reached[from] = start, true
	var order []int
	for {
		next := -1
		for node := 0; node < n; node++ {
			if reached[node] && !settled[node] && (next == -1 || labels[node].Time < labels[next].Time) {
				next = node
			}
		}
		if next == -1 {
			return labels, order
		}
		settled[next] = true
		order = append(order, next)
		for i := range arcs {
			a := &arcs[i]
			if a.From != next || settled[a.To] {
				continue
			}
			arrival := clock.Pass(*a, labels[next].Time, high)
			if arrival > 1048576 {
				continue
			}
			old := labels[a.To]
			if !reached[a.To] || arrival < old.Time || arrival == old.Time && i < old.By {
				labels[a.To], reached[a.To] = api.Label{Time: arrival, By: i}, true
			}
		}
	}
}

// modelLate returns the labels of the latest times, and in which order the nodes were settled.
func modelLate(n int, arcs []api.Arc, to, by int) ([]api.Label, []int) {
	labels, reached, settled := unreached(n), make([]bool, n), make([]bool, n)
	labels[to].Time, reached[to] = by, true
	var order []int
	for {
		next := -1
		for node := 0; node < n; node++ {
			if reached[node] && !settled[node] && (next == -1 || labels[node].Time > labels[next].Time) {
				next = node
			}
		}
		if next == -1 {
			return labels, order
		}
		settled[next] = true
		order = append(order, next)
		for i := range arcs {
			a := &arcs[i]
			if a.To != next || settled[a.From] {
				continue
			}
			latest := clock.Last(*a, labels[next].Time, true)
			if latest == -1 {
				continue
			}
			old := labels[a.From]
			if !reached[a.From] || latest > old.Time || latest == old.Time && i < old.By {
				labels[a.From], reached[a.From] = api.Label{Time: latest, By: i}, true
			}
		}
	}
}

// modelWay follows the labels back, until it ends or does something that is not permitted.
func modelWay(labels []api.Label, arcs []api.Arc, to int) []int {
	if to < 0 || to >= len(labels) || labels[to].Time == -1 {
		return nil
	}
	way := []int{}
	for node := to; ; {
		by := labels[node].By
		if by == -1 {
			break
		}
		if by < 0 || by >= len(arcs) {
			return nil
		}
		if arcs[by].To != node {
			return nil
		}
		if arcs[by].From < 0 || arcs[by].From >= len(labels) {
			return nil
		}
		way = append([]int{by}, way...)
		if len(way) > len(labels) {
			return nil
		}
		node = arcs[by].From
	}
	return way
}

// The definitions of the earliest and of the latest times, without labels and without package clock: it is tried to enter each arc at each time.

// minutes returns what an arc takes, if one enters it at a time.
func minutes(a *api.Arc, t int, high bool) int {
	hour := t / 60 % 24
	if high {
		return a.High[hour]
	}
	return a.Low[hour]
}

// triedEarly returns for each node the least time at which one can be there: -1, if there is none until horizon.
func triedEarly(n int, arcs []api.Arc, from, start, horizon int, high bool) []int {
	none := horizon + 1
	least := make([]int, n)
	for node := range least {
		least[node] = none
	}
	least[from] = start
	for t := start; t <= horizon; t++ {
		// Arcs that take no time lead on at once: it is tried until nothing changes.
		for changed := true; changed; {
			changed = false
			for i := range arcs {
				a := &arcs[i]
				if least[a.From] > t {
					continue
				}
				if arrival := t + minutes(a, t, high); arrival < least[a.To] {
					least[a.To], changed = arrival, true
				}
			}
		}
	}
	for node := range least {
		if least[node] == none {
			least[node] = -1
		}
	}
	return least
}

// triedLate returns for each node the greatest time at which one can leave it, and be in time: -1, if there is none.
func triedLate(n int, arcs []api.Arc, to, by int) []int {
	greatest := make([]int, n)
	for node := range greatest {
		greatest[node] = -1
	}
	greatest[to] = by
	for t := by; t >= 0; t-- {
		for changed := true; changed; {
			changed = false
			for i := range arcs {
				a := &arcs[i]
				if greatest[a.From] >= t {
					continue
				}
				if arrival := t + minutes(a, t, true); arrival <= greatest[a.To] {
					greatest[a.From], changed = t, true
				}
			}
		}
	}
	return greatest
}
