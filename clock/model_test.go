package clock

import "tonneau/api"

// The chapter, word for word: arrivals are looked for among all times.

func modelRight(a api.Arc) bool {
	if a.From < 0 || a.To < 0 || len(a.Low) != 24 || len(a.High) != 24 {
		return false
	}
	for hour := 0; hour < 24; hour++ {
		if !(0 <= a.Low[hour] && a.Low[hour] <= a.High[hour] && a.High[hour] <= 600) {
			return false
		}
	}
	return true
}

func modelTook(a api.Arc, t int, high bool) int {
	if !modelRight(a) || t < 0 || t > 1048576 {
		return -1
	}
	return modelMinutes(a, t, high)
}

// modelMinutes is modelTook of a valid arc and a time.
func modelMinutes(a api.Arc, t int, high bool) int {
	hour := (t / 60) % 24
	if high {
		return a.High[hour]
	}
	return a.Low[hour]
}

// modelArrivals returns the arrival from each time on, of a valid arc: the least sum of a time and what the arc takes from it on, of this time and all later ones.
func modelArrivals(a api.Arc, high bool) []int {
	out := make([]int, 1048576+1)
	least := 1048576 + 601
	for u := 1048576; u >= 0; u-- {
		least = min(least, u+modelMinutes(a, u, high))
		out[u] = least
	}
	return out
}

// modelLasts returns for each number from -wide to wide after the greatest time the greatest time from which one arrives by then: the first element is for -wide.
func modelLasts(arrivals []int, wide int) []int {
	out := make([]int, len(arrivals)+2*wide)
	t := len(arrivals) - 1
	// The greatest number first: a time from which one is too late for a number is too late for all smaller ones.
	for i := len(out) - 1; i >= 0; i-- {
		for t >= 0 && arrivals[t] > i-wide {
			t--
		}
		out[i] = t
	}
	return out
}
