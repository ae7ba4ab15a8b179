package label

import (
	"tonneau/api"
	"tonneau/clock"
)

// The chapter, word for word.

// minutes returns what an arc takes, if one enters it at a time.
func minutes(a api.Arc, t int, high bool) int {
	hour := t / 60 % 24
	if high {
		return a.High[hour]
	}
	return a.Low[hour]
}

// entered returns the first time, from t on, at which the sum of this time and what the arc takes is least, and this sum. No arc takes more than 600 minutes: nobody waits longer.
func entered(a api.Arc, t int, high bool) (int, int) {
	first, least := t, t+minutes(a, t, high)
	for u := t; u <= t+600 && u <= 1048576; u++ {
		if sum := u + minutes(a, u, high); sum < least {
			first, least = u, sum
		}
	}
	return first, least
}

// arrived returns the arrival by an arc; -1, if t is no time.
func arrived(a api.Arc, t int, high bool) int {
	if t < 0 || t > 1048576 {
		return -1
	}
	_, least := entered(a, t, high)
	return least
}

// modelRight reports whether arcs are right for n nodes.
func modelRight(n int, arcs []api.Arc) bool {
	if n < 1 || n > 2000 || len(arcs) > 20000 {
		return false
	}
	for _, a := range arcs {
		if !clock.Right(a) || a.From >= n || a.To >= n {
			return false
		}
	}
	return true
}

// modelSound reports whether labels are sound.
func modelSound(q question, labels []api.Label) bool {
	reached := func(node int) bool { return labels[node].Time != -1 }
	if labels[q.from].Time != q.start || labels[q.from].By != -1 {
		return false
	}
	for node, l := range labels {
		if !reached(node) && l.By != -1 {
			return false
		}
		if node == q.from || !reached(node) {
			continue
		}
		if l.Time < 0 || l.Time > 1048576 || l.By < 0 || l.By >= len(q.arcs) {
			return false
		}
		before := q.arcs[l.By].From
		if q.arcs[l.By].To != node || !reached(before) || arrived(q.arcs[l.By], labels[before].Time, q.high) != l.Time {
			return false
		}
	}
	for node := range labels {
		at := node
		for range labels {
			if reached(at) && at != q.from {
				at = q.arcs[labels[at].By].From
			}
		}
		if reached(node) && at != q.from {
			return false
		}
	}
	return true
}

// modelTight reports whether labels, which are sound, are tight.
func modelTight(q question, labels []api.Label) bool {
	for _, a := range q.arcs {
		if labels[a.From].Time == -1 {
			continue
		}
		arrival := arrived(a, labels[a.From].Time, q.high)
		if arrival > 1048576 {
			continue
		}
		if labels[a.To].Time == -1 || labels[a.To].Time > arrival {
			return false
		}
	}
	return true
}

func modelCheck(q question, labels []api.Label) api.Errno {
	if !modelRight(q.n, q.arcs) || q.from < 0 || q.from >= q.n || q.start < 0 || q.start > 1048576 {
		return api.ErrArg
	}
	if len(labels) != q.n {
		return api.ErrForm
	}
	if !modelSound(q, labels) {
		return api.ErrCheck
	}
	if !modelTight(q, labels) {
		return api.ErrCheck
	}
	return api.OK
}

// modelConnected reports whether each arc but the first one begins where the one before it ends.
func modelConnected(arcs []api.Arc, way []int) bool {
	for i := 1; i < len(way); i++ {
		if arcs[way[i]].From != arcs[way[i-1]].To {
			return false
		}
	}
	return true
}

func modelSpan(arcs []api.Arc, way []int, start int) (int, int, api.Errno) {
	if len(arcs) > 20000 || start < 0 || start > 1048576 || len(way) > 2000 {
		return 0, 0, api.ErrArg
	}
	for _, a := range arcs {
		if !clock.Right(a) {
			return 0, 0, api.ErrArg
		}
	}
	for _, i := range way {
		if i < 0 || i >= len(arcs) {
			return 0, 0, api.ErrArg
		}
	}
	if !modelConnected(arcs, way) {
		return 0, 0, api.ErrArg
	}
	ends := [2]int{start, start}
	for bound, high := range both {
		for _, i := range way {
			if ends[bound] <= 1048576 {
				ends[bound] = arrived(arcs[i], ends[bound], high)
			}
		}
	}
	if ends[1] > 1048576 {
		return 0, 0, api.ErrRange
	}
	return ends[0], ends[1], api.OK
}
