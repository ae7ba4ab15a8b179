package label

import (
	"math"
	"math/rand"
	"slices"
	"sync"
	"testing"

	"tonneau/api"
	"tonneau/clock"
	"tonneau/road"
)

// lastTime is the greatest time.
const lastTime = 1048576

// notTimes are numbers that are not times; some are times where an int is cut.
var notTimes = []int{-1, -2, -60, -1440, lastTime + 1, lastTime + 2, lastTime + 600, 1 << 31, 1 << 32, 1<<32 + 480, -1 << 32, math.MinInt, math.MinInt + 480, math.MaxInt}

// both are the bounds.
var both = []bool{false, true}

// question asks for the earliest times.
type question struct {
	n           int
	arcs        []api.Arc
	from, start int
	high        bool
}

// check asks whether labels answer a question.
func (q question) check(labels []api.Label) api.Errno {
	return Check(q.n, q.arcs, q.from, q.start, q.high, labels)
}

// flat returns the same minutes for each hour.
func flat(n int) []int {
	return slices.Repeat([]int{n}, 24)
}

// but returns the same minutes for each hour but one.
func but(n, hour, other int) []int {
	l := flat(n)
	l[hour] = other
	return l
}

// wide returns an arc that takes the same minutes in all hours.
func wide(from, to, low, high int) api.Arc {
	return api.Arc{From: from, To: to, Low: flat(low), High: flat(high)}
}

// fixed returns an arc that takes the same minutes in all hours, at both bounds.
func fixed(from, to, took int) api.Arc {
	return wide(from, to, took, took)
}

// example are the arcs of the chapter, between two nodes.
func example() []api.Arc {
	return []api.Arc{wide(0, 1, 10, 20), wide(0, 1, 15, 15)}
}

// labelsOf returns labels: the numbers are times and indices, in turn.
func labelsOf(pairs ...int) []api.Label {
	labels := make([]api.Label, len(pairs)/2)
	for i := range labels {
		labels[i] = api.Label{Time: pairs[2*i], By: pairs[2*i+1]}
	}
	return labels
}

// randomArc returns an arc between two of n nodes, whose minutes are from a list: the same in all hours, or of each hour its own.
func randomArc(r *rand.Rand, n int, numbers []int) api.Arc {
	a := api.Arc{From: r.Intn(n), To: r.Intn(n), Low: make([]int, 24), High: make([]int, 24)}
	same := r.Intn(2) == 0
	for hour := range 24 {
		if same && hour > 0 {
			a.Low[hour], a.High[hour] = a.Low[0], a.High[0]
			continue
		}
		x, y := numbers[r.Intn(len(numbers))], numbers[r.Intn(len(numbers))]
		a.Low[hour], a.High[hour] = min(x, y), max(x, y)
	}
	return a
}

// someTime returns a time: an early one, a late one, or any.
func someTime(r *rand.Rand) int {
	switch r.Intn(4) {
	case 0:
		return lastTime - r.Intn(700)
	case 1:
		return r.Intn(lastTime + 1)
	}
	return r.Intn(1800)
}

// randomQuestion returns a question about some nodes and arcs; minutes from a short list make that many ways take the same time.
func randomQuestion(r *rand.Rand, nodes, arcs int) question {
	lists := [][]int{{0}, {0, 1}, {0, 10}, {10, 20}, {10}, {0, 1, 2, 3, 4, 5, 6, 7, 8, 9}, {0, 60, 120}, {0, 600}, {5, 59, 60, 61, 130, 240, 600}}
	numbers := lists[r.Intn(len(lists))]
	q := question{n: 1 + r.Intn(nodes), start: someTime(r), high: r.Intn(2) == 0}
	q.from = r.Intn(q.n)
	for range r.Intn(arcs + 1) {
		q.arcs = append(q.arcs, randomArc(r, q.n, numbers))
	}
	return q
}

// randomQuestions returns so many questions.
func randomQuestions(seed int64, count, nodes, arcs int) []question {
	r := rand.New(rand.NewSource(seed))
	list := make([]question, count)
	for i := range list {
		list[i] = randomQuestion(r, nodes, arcs)
	}
	return list
}

// randomWay returns indices of arcs, each of which begins where the one before it ends: as many, or as many as there are.
func randomWay(r *rand.Rand, arcs []api.Arc, length int) []int {
	var way []int
	for len(way) < length {
		var next []int
		for i, a := range arcs {
			if len(way) == 0 || arcs[way[len(way)-1]].To == a.From {
				next = append(next, i)
			}
		}
		if len(next) == 0 {
			return way
		}
		way = append(way, next[r.Intn(len(next))])
	}
	return way
}

// early returns the answer of package road.
func early(t *testing.T, q question) []api.Label {
	t.Helper()
	labels, e := road.Early(q.n, q.arcs, q.from, q.start, q.high)
	if e != api.OK || len(labels) != q.n {
		t.Fatalf("%v: %v, %d", q, labels, e)
	}
	return labels
}

// times returns the times of labels.
func times(labels []api.Label) []int {
	list := make([]int, len(labels))
	for i := range labels {
		list[i] = labels[i].Time
	}
	return list
}

// invalid are changes after which an arc is not valid, whatever it was.
func invalid() []func(a *api.Arc) {
	return []func(a *api.Arc){
		func(a *api.Arc) { a.From = -1 },
		func(a *api.Arc) { a.To = -1 },
		func(a *api.Arc) { a.To = math.MinInt },
		func(a *api.Arc) { a.Low = a.Low[1:] },
		func(a *api.Arc) { a.High = append(slices.Clone(a.High), 40) },
		func(a *api.Arc) { a.Low, a.High = nil, nil },
		func(a *api.Arc) { a.Low = but(5, 23, -1) },
		func(a *api.Arc) { a.Low = but(5, 0, 41) },
		func(a *api.Arc) { a.High = but(40, 12, 601) },
		func(a *api.Arc) { *a = api.Arc{} },
	}
}

// P12.1

func TestCheckExamples(t *testing.T) {
	for i, c := range []struct {
		high   bool
		labels []api.Label
		want   api.Errno
	}{
		{true, labelsOf(100, -1, 115, 1), api.OK},
		{true, labelsOf(100, -1, 120, 0), api.ErrCheck},
		{true, labelsOf(100, -1, -1, -1), api.ErrCheck},
		{false, labelsOf(100, -1, 110, 0), api.OK},
		{false, labelsOf(100, -1, 115, 1), api.ErrCheck},
		{true, labelsOf(100, -1, 110, 0), api.ErrCheck},
	} {
		if got := Check(2, example(), 0, 100, c.high, c.labels); got != c.want {
			t.Errorf("%d: %d, not %d", i, got, c.want)
		}
	}
}

func TestCheckRefusesArguments(t *testing.T) {
	refuse := func(n int, arcs []api.Arc, from, start int) {
		t.Helper()
		// Labels for each node, too few, too many, and such as are not sound: the arguments come first.
		for _, labels := range [][]api.Label{labelsOf(100, -1, 115, 1), labelsOf(start, -1, start+15, 1), nil, labelsOf(5, 5), labelsOf(-1, -1, -1, -1, -1, -1)} {
			for _, high := range both {
				if e := Check(n, arcs, from, start, high, labels); e != api.ErrArg {
					t.Errorf("%d nodes, %d arcs, from %d at %d: %d", n, len(arcs), from, start, e)
				}
			}
		}
	}
	for _, n := range []int{0, -1, -2, 1, 2001, 2002, 1 << 32, 1<<32 + 2, math.MinInt, math.MaxInt} {
		refuse(n, example(), 0, 100)
		if n != 1 {
			refuse(n, nil, 0, 100)
		}
	}
	beyond := []func(a *api.Arc){
		func(a *api.Arc) { a.From = 2 },
		func(a *api.Arc) { a.To = 2 },
		func(a *api.Arc) { a.From, a.To = 2, 2 },
		func(a *api.Arc) { a.To = 1 << 32 },
		func(a *api.Arc) { a.From = math.MaxInt },
	}
	for i := range 2 {
		for _, change := range append(invalid(), beyond...) {
			arcs := example()
			change(&arcs[i])
			refuse(2, arcs, 0, 100)
		}
	}
	refuse(2, slices.Repeat(example(), 10001), 0, 100)
	refuse(2, slices.Repeat([]api.Arc{fixed(1, 0, 1)}, 20001), 0, 100)
	for _, from := range []int{-1, -2, 2, 3, 2000, 1 << 32, -1 << 32, math.MinInt, math.MaxInt} {
		refuse(2, example(), from, 100)
		refuse(2, nil, from, -1)
	}
	for _, start := range notTimes {
		refuse(2, example(), 0, start)
		refuse(2, nil, 1, start)
	}
}

func TestCheckNeedsALabelForEachNode(t *testing.T) {
	line := []api.Arc{fixed(0, 1, 5), fixed(1, 2, 5)}
	good := labelsOf(0, -1, 5, 0, 10, 1, -1, -1)
	for _, n := range []int{3, 4} {
		if e := Check(n, line, 0, 0, true, good[:n]); e != api.OK {
			t.Errorf("%d nodes: %d", n, e)
		}
	}
	for _, labels := range [][]api.Label{nil, {}, good[:1], good[:2], good, labelsOf(9, 9), labelsOf(0, -1, 5, 7), labelsOf(0, -1, 5, 0, 10, 1, 9, 9), slices.Repeat(good, 600)} {
		if e := Check(3, line, 0, 0, true, labels); e != api.ErrForm {
			t.Errorf("%d labels: %d", len(labels), e)
		}
	}
	if e := Check(1, nil, 0, 0, true, nil); e != api.ErrForm {
		t.Error(e)
	}
}

func TestOneNode(t *testing.T) {
	for _, arcs := range [][]api.Arc{nil, {}, {fixed(0, 0, 0)}, {fixed(0, 0, 600), fixed(0, 0, 1)}} {
		for _, start := range []int{0, 1, 59, 1440, lastTime - 1, lastTime} {
			for _, high := range both {
				if e := Check(1, arcs, 0, start, high, labelsOf(start, -1)); e != api.OK {
					t.Errorf("at %d: %d", start, e)
				}
				for _, labels := range [][]api.Label{labelsOf(start, 0), labelsOf(start, -2), labelsOf(start+1, -1), labelsOf(start-1, -1), labelsOf(-1, -1), labelsOf(-2, -1), labelsOf(start, 1)} {
					if e := Check(1, arcs, 0, start, high, labels); e != api.ErrCheck {
						t.Errorf("%v at %d: %d", labels, start, e)
					}
				}
			}
		}
	}
}

// Each part of the definition of sound labels is needed: of the labels that are refused each breaks one of them.
func TestSoundness(t *testing.T) {
	// From 0 one comes to 1 and 2; 3 and 4 are beyond, and not reached.
	arcs := []api.Arc{fixed(0, 1, 5), fixed(1, 2, 5), fixed(0, 2, 10), fixed(3, 4, 5), fixed(3, 1, 5), fixed(2, 0, 5), fixed(2, 2, 0)}
	for i, labels := range [][]api.Label{
		labelsOf(7, -1, 12, 0, 17, 1, -1, -1, -1, -1),
		labelsOf(7, -1, 12, 0, 17, 2, -1, -1, -1, -1),
	} {
		if e := Check(5, arcs, 0, 7, true, labels); e != api.OK {
			t.Errorf("%d: %v: %d", i, labels, e)
		}
	}
	for i, labels := range [][]api.Label{
		// The label of the first node.
		labelsOf(8, -1, 12, 0, 17, 1, -1, -1, -1, -1),
		labelsOf(6, -1, 11, 0, 16, 1, -1, -1, -1, -1),
		labelsOf(7, -2, 12, 0, 17, 1, -1, -1, -1, -1),
		labelsOf(7, 0, 12, 0, 17, 1, -1, -1, -1, -1),
		labelsOf(7, 5, 12, 0, 17, 1, -1, -1, -1, -1),
		labelsOf(-1, -1, -1, -1, -1, -1, -1, -1, -1, -1),
		// The labels of nodes that are not reached.
		labelsOf(7, -1, 12, 0, 17, 1, -1, 0, -1, -1),
		labelsOf(7, -1, 12, 0, 17, 1, -1, -1, -1, 3),
		labelsOf(7, -1, 12, 0, 17, 1, -1, -1, -1, -2),
		labelsOf(7, -1, 12, 0, 17, 1, -1, math.MaxInt, -1, -1),
		labelsOf(7, -1, 12, 0, 17, 1, -2, -1, -1, -1),
		labelsOf(7, -1, 12, 0, 17, 1, math.MinInt, -1, -1, -1),
		// Times.
		labelsOf(7, -1, 13, 0, 18, 1, -1, -1, -1, -1),
		labelsOf(7, -1, 11, 0, 17, 2, -1, -1, -1, -1),
		labelsOf(7, -1, 12, 0, 16, 1, -1, -1, -1, -1),
		labelsOf(7, -1, 12, 0, 18, 2, -1, -1, -1, -1),
		labelsOf(7, -1, 12+1<<32, 0, 17, 2, -1, -1, -1, -1),
		labelsOf(7, -1, -12, 0, 17, 2, -1, -1, -1, -1),
		// Arcs that are none, that lead elsewhere, or that come from a node that is not reached.
		labelsOf(7, -1, 12, -1, 17, 1, -1, -1, -1, -1),
		labelsOf(7, -1, 12, 0, 17, 7, -1, -1, -1, -1),
		labelsOf(7, -1, 12, 0, 17, -2, -1, -1, -1, -1),
		labelsOf(7, -1, 12, 0, 17, math.MaxInt, -1, -1, -1, -1),
		labelsOf(7, -1, 12, 0, 17, math.MinInt, -1, -1, -1, -1),
		labelsOf(7, -1, 12, 0, 17, 0, -1, -1, -1, -1),
		labelsOf(7, -1, 17, 2, 17, 1, -1, -1, -1, -1),
		labelsOf(7, -1, 12, 4, 17, 1, -1, -1, -1, -1),
		labelsOf(7, -1, 12, 0, 17, 1, -1, -1, 5, 3),
		labelsOf(7, -1, 12, 0, 17, 1, -1, -1, 4, 3),
		labelsOf(7, -1, 12, 0, 17, 1, -1, -1, -1, 3),
		// A node that is its own one.
		labelsOf(7, -1, 12, 0, 17, 6, -1, -1, -1, -1),
		// A node from which another one comes must have a time itself.
		labelsOf(7, -1, 12, 0, 17, 1, -5, -1, 0, 3),
	} {
		if e := Check(5, arcs, 0, 7, true, labels); e != api.ErrCheck {
			t.Errorf("%d: %v: %d", i, labels, e)
		}
	}
}

// Labels of which each follows from the one before it, though one does not come to the first node.
func TestCircles(t *testing.T) {
	arcs := []api.Arc{fixed(0, 1, 5), fixed(1, 2, 0), fixed(2, 1, 0), fixed(3, 3, 0), fixed(4, 5, 0), fixed(5, 6, 0), fixed(6, 4, 0), fixed(4, 3, 3)}
	for i, c := range []struct {
		n      int
		labels []api.Label
		want   api.Errno
	}{
		{3, labelsOf(0, -1, 5, 0, 5, 1), api.OK},
		// 1 and 2 have their right times, but each only by the other one.
		{3, labelsOf(0, -1, 5, 2, 5, 1), api.ErrCheck},
		{7, labelsOf(0, -1, 5, 0, 5, 1, -1, -1, -1, -1, -1, -1, -1, -1), api.OK},
		{7, labelsOf(0, -1, 5, 0, 5, 1, 9, 3, -1, -1, -1, -1, -1, -1), api.ErrCheck},
		{7, labelsOf(0, -1, 5, 0, 5, 1, 9, 3, 9, 6, 9, 4, 9, 5), api.ErrCheck},
		{7, labelsOf(0, -1, 5, 0, 5, 1, 12, 7, 9, 6, 9, 4, 9, 5), api.ErrCheck},
		{7, labelsOf(0, -1, 5, 2, 5, 1, -1, -1, -1, -1, -1, -1, -1, -1), api.ErrCheck},
	} {
		list := slices.DeleteFunc(slices.Clone(arcs), func(a api.Arc) bool { return a.From >= c.n })
		for _, high := range both {
			if e := Check(c.n, list, 0, 0, high, c.labels); e != c.want {
				t.Errorf("%d: %v: %d, not %d", i, c.labels, e, c.want)
			}
		}
	}
	// A circle is found whatever the numbers of its nodes are, and of the first one.
	for from := range 4 {
		for entry := range 4 {
			if entry == from {
				continue
			}
			checkRing(t, from, entry)
		}
	}
}

// checkRing lays a circle through all of four nodes but the first one; the arc 0 leads to its entry.
func checkRing(t *testing.T, from, entry int) {
	t.Helper()
	arcs := []api.Arc{fixed(from, entry, 5)}
	good := make([]api.Label, 4)
	good[from] = api.Label{Time: 1, By: -1}
	good[entry] = api.Label{Time: 6, By: 0}
	at := entry
	for next := range 4 {
		if next != from && next != entry {
			good[next] = api.Label{Time: 6, By: len(arcs)}
			arcs = append(arcs, fixed(at, next, 0))
			at = next
		}
	}
	arcs = append(arcs, fixed(at, entry, 0))
	if e := Check(4, arcs, from, 1, true, good); e != api.OK {
		t.Errorf("from %d over %d: %d", from, entry, e)
	}
	bad := slices.Clone(good)
	bad[entry].By = len(arcs) - 1
	if e := Check(4, arcs, from, 1, true, bad); e != api.ErrCheck {
		t.Errorf("a circle from %d over %d: %d", from, entry, e)
	}
	// The circle is refused also where no arc leads to it, so that nothing of it is too late.
	if e := Check(4, append([]api.Arc{fixed(from, from, 5)}, arcs[1:]...), from, 1, true, bad); e != api.ErrCheck {
		t.Errorf("a circle beside %d: %d", from, e)
	}
}

// Long ways back are followed, and long circles are found.
func TestLongWaysBack(t *testing.T) {
	const n = 2000
	for _, step := range []int{1, -1} {
		number := func(k int) int { return (n + k*step) % n }
		var arcs []api.Arc
		labels := make([]api.Label, n)
		for k := range n - 1 {
			arcs = append(arcs, fixed(number(k), number(k+1), 0))
			labels[number(k+1)] = api.Label{Time: 60, By: k}
		}
		labels[0] = api.Label{Time: 60, By: -1}
		if e := Check(n, arcs, 0, 60, true, labels); e != api.OK {
			t.Errorf("a line: %d", e)
		}
		arcs = append(arcs, fixed(number(n-1), number(1), 0))
		if e := Check(n, arcs, 0, 60, true, labels); e != api.OK {
			t.Errorf("a line with an arc back: %d", e)
		}
		labels[number(1)].By = n - 1
		if e := Check(n, arcs, 0, 60, true, labels); e != api.ErrCheck {
			t.Errorf("a circle: %d", e)
		}
	}
}

func TestTightness(t *testing.T) {
	// The second arc is a shorter way; the third one comes from a node that is not reached.
	arcs := []api.Arc{fixed(0, 1, 20), fixed(0, 2, 5), fixed(2, 1, 5), fixed(3, 1, 0), fixed(1, 0, 0)}
	for i, c := range []struct {
		labels []api.Label
		want   api.Errno
	}{
		{labelsOf(0, -1, 10, 2, 5, 1, -1, -1), api.OK},
		{labelsOf(0, -1, 20, 0, 5, 1, -1, -1), api.ErrCheck},
		{labelsOf(0, -1, 20, 0, -1, -1, -1, -1), api.ErrCheck},
		{labelsOf(0, -1, -1, -1, 5, 1, -1, -1), api.ErrCheck},
		{labelsOf(0, -1, -1, -1, -1, -1, -1, -1), api.ErrCheck},
	} {
		if e := Check(4, arcs, 0, 0, true, c.labels); e != c.want {
			t.Errorf("%d: %v: %d, not %d", i, c.labels, e, c.want)
		}
	}
	// One minute decides.
	for more := -2; more <= 2; more++ {
		arcs[0] = fixed(0, 1, 10+more)
		want := api.OK
		if more < 0 {
			want = api.ErrCheck
		}
		if e := Check(4, arcs, 0, 0, true, labelsOf(0, -1, 10, 2, 5, 1, -1, -1)); e != want {
			t.Errorf("%d: %d, not %d", more, e, want)
		}
	}
}

// Whoever would arrive later than the greatest time does not arrive.
func TestGreatestTime(t *testing.T) {
	arcs := []api.Arc{fixed(0, 1, 10), fixed(1, 2, 1)}
	for i, c := range []struct {
		start  int
		labels []api.Label
		want   api.Errno
	}{
		{lastTime - 11, labelsOf(lastTime-11, -1, lastTime-1, 0, lastTime, 1), api.OK},
		{lastTime - 11, labelsOf(lastTime-11, -1, lastTime-1, 0, -1, -1), api.ErrCheck},
		{lastTime - 10, labelsOf(lastTime-10, -1, lastTime, 0, -1, -1), api.OK},
		{lastTime - 10, labelsOf(lastTime-10, -1, lastTime, 0, lastTime+1, 1), api.ErrCheck},
		{lastTime - 10, labelsOf(lastTime-10, -1, -1, -1, -1, -1), api.ErrCheck},
		{lastTime - 9, labelsOf(lastTime-9, -1, -1, -1, -1, -1), api.OK},
		{lastTime - 9, labelsOf(lastTime-9, -1, lastTime+1, 0, -1, -1), api.ErrCheck},
		{lastTime - 9, labelsOf(lastTime-9, -1, lastTime+1, 0, lastTime+2, 1), api.ErrCheck},
		{lastTime, labelsOf(lastTime, -1, -1, -1, -1, -1), api.OK},
		{lastTime, labelsOf(lastTime, -1, lastTime+10, 0, -1, -1), api.ErrCheck},
	} {
		if e := Check(3, arcs, 0, c.start, false, c.labels); e != c.want {
			t.Errorf("%d: %v: %d, not %d", i, c.labels, e, c.want)
		}
	}
}

// Who waits for a better hour arrives then.
func TestCheckWaits(t *testing.T) {
	arcs := []api.Arc{{From: 0, To: 1, Low: but(10, 10, 30), High: but(10, 10, 30)}}
	for start, want := range map[int]int{599: 609, 600: 630, 640: 670, 650: 670, 660: 670, 661: 671} {
		for arrival := want - 25; arrival <= want+25; arrival++ {
			e := Check(2, arcs, 0, start, true, labelsOf(start, -1, arrival, 0))
			if (e == api.OK) != (arrival == want) || e != api.OK && e != api.ErrCheck {
				t.Errorf("from %d on one is there at %d: %d", start, arrival, e)
			}
		}
	}
}

// spoil changes labels a little.
func spoil(r *rand.Rand, q question, labels []api.Label) []api.Label {
	labels = slices.Clone(labels)
	for range 1 + r.Intn(2) {
		some := &labels[r.Intn(len(labels))]
		switch r.Intn(8) {
		case 0:
			some.Time += r.Intn(3) - 1
		case 1, 2, 3:
			some.By = r.Intn(len(q.arcs)+3) - 2
		case 4:
			*some = api.Label{Time: -1, By: -1}
		case 5:
			*some = labels[r.Intn(len(labels))]
		case 6:
			for i := range labels {
				if labels[i].Time != -1 {
					labels[i].Time += 60
				}
			}
		case 7:
			some.Time = []int{-2, lastTime + 1, math.MaxInt, math.MinInt, 0, q.start}[r.Intn(6)]
		}
	}
	return labels
}

// forced gives each node but the first one any arc that leads to it, and the time that follows from it: such labels are often sound, and often not tight.
func forced(r *rand.Rand, q question) []api.Label {
	labels := slices.Repeat(labelsOf(-1, -1), q.n)
	labels[q.from].Time = q.start
	chosen := slices.Repeat([]int{-1}, q.n)
	for _, i := range r.Perm(len(q.arcs)) {
		chosen[q.arcs[i].To] = i
	}
	for range q.n {
		for node, i := range chosen {
			if node == q.from || i == -1 || labels[q.arcs[i].From].Time == -1 {
				continue
			}
			if arrival := arrived(q.arcs[i], labels[q.arcs[i].From].Time, q.high); arrival <= lastTime {
				labels[node] = api.Label{Time: arrival, By: i}
			}
		}
	}
	return labels
}

func TestCheckIsTheModel(t *testing.T) {
	r := rand.New(rand.NewSource(1201))
	found := map[api.Errno]int{}
	var loose, unsound int
	compare := func(q question, labels []api.Label) {
		want := modelCheck(q, labels)
		if got := q.check(labels); got != want {
			t.Fatalf("%v, %v: %d, not %d", q, labels, got, want)
		}
		found[want]++
		if want != api.ErrCheck {
			return
		}
		if modelSound(q, labels) {
			loose++
		} else {
			unsound++
		}
	}
	for _, q := range append(randomQuestions(1202, 6000, 8, 30), randomQuestions(1203, 30, 60, 400)...) {
		labels := early(t, q)
		compare(q, labels)
		for range 6 {
			compare(q, spoil(r, q, labels))
		}
		compare(q, forced(r, q))
		compare(q, labels[1:])
		compare(q, append(slices.Clone(labels), api.Label{Time: -1, By: -1}))
		q.high = !q.high
		compare(q, labels)
		q.start = min(q.start+1, lastTime)
		compare(q, labels)
		q.from = r.Intn(q.n+2) - 1
		compare(q, labels)
		q.n += r.Intn(3) - 1
		compare(q, labels)
	}
	if found[api.OK] < 5000 || found[api.ErrArg] < 1000 || found[api.ErrForm] < 5000 || loose < 1000 || unsound < 5000 {
		t.Error(found, loose, unsound)
	}
}

// each yields all lists of n labels, each of which has one of some times and one of some indices.
func each(n int, times, indices []int, yield func(labels []api.Label)) {
	labels := make([]api.Label, n)
	var choose func(node int)
	choose = func(node int) {
		if node == n {
			yield(labels)
			return
		}
		for _, time := range times {
			for _, by := range indices {
				labels[node] = api.Label{Time: time, By: by}
				choose(node + 1)
			}
		}
	}
	choose(0)
}

// smallQuestions are questions about two or three nodes, with arcs that take no time or little of it.
func smallQuestions() []question {
	list := []question{
		{n: 2, start: 5, arcs: []api.Arc{fixed(0, 1, 0), fixed(1, 0, 0), fixed(1, 1, 0)}},
		{n: 2, start: 5, from: 1, arcs: []api.Arc{fixed(0, 1, 0), fixed(0, 0, 0)}},
		{n: 3, start: 5, arcs: []api.Arc{fixed(1, 2, 0), fixed(2, 1, 0), fixed(0, 1, 1)}},
		{n: 3, start: 5, arcs: []api.Arc{fixed(0, 1, 1), fixed(0, 2, 1), fixed(1, 2, 0), fixed(2, 1, 0)}},
		{n: 3, start: 0, arcs: []api.Arc{fixed(0, 1, 2), fixed(0, 2, 1), fixed(2, 1, 1)}},
		{n: 3, start: lastTime - 1, arcs: []api.Arc{fixed(0, 1, 1), fixed(1, 2, 1), fixed(2, 1, 0)}},
		{n: 3, start: lastTime, arcs: []api.Arc{fixed(0, 1, 0), fixed(0, 2, 1)}},
	}
	r := rand.New(rand.NewSource(1204))
	for range 12 {
		q := question{n: 2 + r.Intn(2), start: []int{0, 59, lastTime - 1}[r.Intn(3)], high: r.Intn(2) == 0}
		q.from = r.Intn(q.n)
		for range 1 + r.Intn(4) {
			q.arcs = append(q.arcs, randomArc(r, q.n, []int{0, 0, 1, 2}))
		}
		list = append(list, q)
	}
	return list
}

// followsBack reports whether labels lead from a node to the first one, each by an arc that arrives at its time.
func followsBack(q question, labels []api.Label, node int) bool {
	for range q.n {
		if node == q.from {
			return labels[node].By == -1
		}
		by := labels[node].By
		if by < 0 || by >= len(q.arcs) || q.arcs[by].To != node || clock.Pass(q.arcs[by], labels[q.arcs[by].From].Time, q.high) != labels[node].Time {
			return false
		}
		node = q.arcs[by].From
	}
	return false
}

// Of all labels of small networks those are accepted that have the earliest times, which a search has found, and whose arcs lead to them.
func TestAllLabels(t *testing.T) {
	for _, q := range smallQuestions() {
		want, accepted := early(t, q), 0
		var indices []int
		for i := -2; i <= len(q.arcs); i++ {
			indices = append(indices, i)
		}
		each(q.n, []int{-2, -1, q.start - 1, q.start, q.start + 1, q.start + 2}, indices, func(labels []api.Label) {
			right := slices.Equal(times(labels), times(want))
			for node, one := range labels {
				right = right && (one == api.Label{Time: -1, By: -1} || one.Time != -1 && followsBack(q, labels, node))
			}
			e := q.check(labels)
			if (e == api.OK) != right || e != api.OK && e != api.ErrCheck {
				t.Fatalf("%v: %v: %d", q, labels, e)
			}
			if right {
				accepted++
			}
		})
		if accepted == 0 {
			t.Errorf("%v: no labels are accepted", q)
		}
	}
}

// P12.2

func TestSpanExamples(t *testing.T) {
	hourly := api.Arc{From: 1, To: 2, Low: but(10, 8, 5), High: but(20, 8, 50)}
	road := api.Arc{From: 2, To: 2, Low: but(10, 10, 30), High: but(10, 10, 30)}
	arcs := append(example(), hourly, fixed(2, 0, 0), fixed(1, 1, 600), fixed(math.MaxInt, 7, 1), road)
	for i, c := range []struct {
		way       []int
		start     int
		low, high int
	}{
		{[]int{0}, 100, 110, 120},
		{[]int{1}, 100, 115, 115},
		{nil, 100, 100, 100},
		{[]int{}, 0, 0, 0},
		{nil, lastTime, lastTime, lastTime},
		{[]int{2}, 470, 480, 490},
		{[]int{2}, 480, 485, 530},
		{[]int{2}, 535, 540, 560},
		{[]int{0, 2}, 460, 480, 530},
		{[]int{0, 2}, 470, 485, 540},
		{[]int{0, 2, 3, 0}, 459, 489, 519},
		{[]int{2, 3, 1}, 0, 25, 35},
		{[]int{0, 4, 4}, 0, 1210, 1220},
		{[]int{5}, 3, 4, 4},
		{[]int{6}, 650, 670, 670},
		{[]int{6, 6}, 590, 630, 630},
		{[]int{6, 6}, 595, 635, 635},
		{[]int{6, 6}, 620, 670, 670},
		{[]int{0}, lastTime - 20, lastTime - 10, lastTime},
		{[]int{0, 4}, lastTime - 620, lastTime - 10, lastTime},
		{[]int{3}, lastTime, lastTime, lastTime},
	} {
		low, high, e := Span(arcs, c.way, c.start)
		if low != c.low || high != c.high || e != api.OK {
			t.Errorf("%d: %d, %d, %d, not %d, %d", i, low, high, e, c.low, c.high)
		}
	}
}

// refuseSpan checks that there is an error, and nothing else.
func refuseSpan(t *testing.T, arcs []api.Arc, way []int, start int, want api.Errno) {
	t.Helper()
	if low, high, e := Span(arcs, way, start); low != 0 || high != 0 || e != want {
		t.Errorf("%d arcs, %d indices, at %d: %d, %d, %d, not %d", len(arcs), len(way), start, low, high, e, want)
	}
}

func TestSpanRefusesArguments(t *testing.T) {
	ring := []api.Arc{fixed(0, 1, 10), fixed(1, 2, 10), fixed(2, 0, 10), fixed(2, 1, 10)}
	if _, _, e := Span(ring, []int{0, 1, 2, 0, 1, 3, 1}, 100); e != api.OK {
		t.Error(e)
	}
	// An arc that is not valid counts, whether or not it is part of the way.
	for i := range ring {
		for _, change := range invalid() {
			arcs := slices.Clone(ring)
			change(&arcs[i])
			for _, way := range [][]int{nil, {0, 1}, {3}, {0, 1, 2}} {
				refuseSpan(t, arcs, way, 100, api.ErrArg)
				refuseSpan(t, arcs, way, lastTime, api.ErrArg)
			}
		}
	}
	for _, start := range notTimes {
		refuseSpan(t, ring, nil, start, api.ErrArg)
		refuseSpan(t, ring, []int{0, 1}, start, api.ErrArg)
		refuseSpan(t, nil, nil, start, api.ErrArg)
	}
	for _, i := range []int{-1, -2, 4, 5, 1 << 32, -1 << 32, math.MinInt, math.MaxInt} {
		for _, way := range [][]int{{i}, {0, i}, {i, 1}, {0, 1, i}, {i, i}} {
			refuseSpan(t, ring, way, 100, api.ErrArg)
			refuseSpan(t, ring, way, lastTime, api.ErrArg)
		}
	}
	refuseSpan(t, nil, []int{0}, 100, api.ErrArg)
	for _, way := range [][]int{{0, 0}, {1, 0}, {0, 2}, {0, 3}, {3, 2}, {0, 1, 1}, {0, 1, 2, 3}, {2, 1}, {0, 1, 3, 2}} {
		refuseSpan(t, ring, way, 100, api.ErrArg)
		refuseSpan(t, ring, way, lastTime, api.ErrArg)
	}
}

func TestSpanLimits(t *testing.T) {
	many := slices.Repeat([]api.Arc{fixed(0, 0, 500)}, 20001)
	if low, high, e := Span(many[:20000], []int{19999, 0}, 1); low != 1001 || high != 1001 || e != api.OK {
		t.Error(low, high, e)
	}
	refuseSpan(t, many, []int{20000, 0}, 1, api.ErrArg)
	refuseSpan(t, many, nil, 1, api.ErrArg)
	long := make([]int, 2001)
	if low, high, e := Span(many[:1], long[:2000], 48576); low != lastTime || high != lastTime || e != api.OK {
		t.Error(low, high, e)
	}
	refuseSpan(t, many[:1], long, 0, api.ErrArg)
	refuseSpan(t, many[:1], long, lastTime, api.ErrArg)
	refuseSpan(t, many[:1], long[:2000], 48577, api.ErrRange)
}

func TestSpanRange(t *testing.T) {
	arcs := []api.Arc{wide(0, 1, 10, 20), fixed(1, 2, 0), wide(2, 3, 0, 1), wide(0, 1, 0, 600)}
	for i, c := range []struct {
		way   []int
		start int
	}{
		{[]int{0}, lastTime - 19},
		{[]int{0}, lastTime - 10},
		{[]int{0}, lastTime - 9},
		{[]int{0}, lastTime},
		{[]int{0, 1}, lastTime - 19},
		{[]int{0, 1, 2}, lastTime - 20},
		{[]int{0, 1, 2}, lastTime - 9},
		{[]int{2}, lastTime},
		{[]int{3}, lastTime},
		{[]int{3, 1, 2}, lastTime - 599},
		{[]int{3, 1, 2}, lastTime - 600},
	} {
		refuseSpan(t, arcs, c.way, c.start, api.ErrRange)
		// Before that there is room.
		if _, high, e := Span(arcs, c.way, lastTime-621); e != api.OK || high > lastTime {
			t.Errorf("%d: %d, %d", i, high, e)
		}
	}
	// By the greatest time one waits for no hour that begins after it.
	good := api.Arc{Low: but(600, 5, 0), High: but(600, 5, 0)}
	refuseSpan(t, []api.Arc{good}, []int{0}, lastTime, api.ErrRange)
	if low, high, e := Span([]api.Arc{good}, []int{0, 0}, lastTime-1440); low != lastTime-1396 || high != low || e != api.OK {
		t.Error(low, high, e)
	}
}

func TestSpanIsTheModel(t *testing.T) {
	r := rand.New(rand.NewSource(1205))
	found := map[api.Errno]int{}
	for _, q := range randomQuestions(1206, 4000, 6, 30) {
		way := randomWay(r, q.arcs, r.Intn(12))
		for range 3 {
			low, high, e := Span(q.arcs, way, q.start)
			wantLow, wantHigh, want := modelSpan(q.arcs, way, q.start)
			if low != wantLow || high != wantHigh || e != want {
				t.Fatalf("%v by %v: %d, %d, %d, not %d, %d, %d", q, way, low, high, e, wantLow, wantHigh, want)
			}
			found[e]++
			q.start = someTime(r)
			if len(way) > 0 && r.Intn(3) == 0 {
				way[r.Intn(len(way))] = r.Intn(len(q.arcs)+2) - 1
			}
		}
	}
	if found[api.OK] < 1000 || found[api.ErrArg] < 1000 || found[api.ErrRange] < 500 {
		t.Error(found)
	}
}

// P12.3

// deep returns a copy of arcs that shares no memory with them.
func deep(arcs []api.Arc) []api.Arc {
	arcs = slices.Clone(arcs)
	for i := range arcs {
		arcs[i].Low, arcs[i].High = slices.Clone(arcs[i].Low), slices.Clone(arcs[i].High)
	}
	return arcs
}

// sameArcs reports whether arcs are the same, one by one.
func sameArcs(list, other []api.Arc) bool {
	return slices.EqualFunc(list, other, func(a, b api.Arc) bool {
		return a.From == b.From && a.To == b.To && slices.Equal(a.Low, b.Low) && slices.Equal(a.High, b.High)
	})
}

func TestArgumentsStay(t *testing.T) {
	r := rand.New(rand.NewSource(1207))
	for _, q := range randomQuestions(1208, 300, 9, 30) {
		// There is room behind the lists for what a careless append would write.
		arcs := append(deep(q.arcs), fixed(7, 7, 7), fixed(8, 8, 8))
		labels := append(early(t, q), api.Label{Time: 9, By: 9})
		way := append(randomWay(r, q.arcs, 9), 5, 5)
		arcsBefore, labelsBefore, wayBefore := deep(arcs), slices.Clone(labels), slices.Clone(way)
		q.arcs = arcs[:len(q.arcs)]
		q.check(labels[:q.n])
		q.check(labels)
		Span(q.arcs, way[:len(way)-2], q.start)
		Span(q.arcs, way, q.start)
		if !sameArcs(arcs, arcsBefore) || !slices.Equal(labels, labelsBefore) || !slices.Equal(way, wayBefore) {
			t.Errorf("%v was changed", q)
		}
	}
}

// Neither earlier calls nor those of other goroutines make a difference.
func TestPure(t *testing.T) {
	answers := func(q question) []int {
		r := rand.New(rand.NewSource(int64(len(q.arcs))))
		var out []int
		labels := early(t, q)
		for range 5 {
			low, high, e := Span(q.arcs, randomWay(r, q.arcs, 6), q.start)
			out = append(out, low, high, int(e), int(q.check(labels)), int(q.check(spoil(r, q, labels))))
		}
		return out
	}
	questions := randomQuestions(1209, 300, 9, 30)
	want := make([][]int, len(questions))
	for i, q := range questions {
		want[i] = answers(q)
	}
	var all sync.WaitGroup
	for range 4 {
		all.Go(func() {
			for i := len(questions) - 1; i >= 0; i-- {
				if !slices.Equal(answers(questions[i]), want[i]) {
					t.Errorf("%v answers otherwise", questions[i])
				}
			}
		})
	}
	all.Wait()
}

// P12.4

func TestCheckAcceptsTheEarliestTimes(t *testing.T) {
	for _, q := range append(randomQuestions(1210, 3000, 9, 40), randomQuestions(1211, 30, 100, 800)...) {
		for _, q.high = range both {
			labels := early(t, q)
			if e := q.check(labels); e != api.OK {
				t.Errorf("%v: %v: %d", q, labels, e)
			}
		}
	}
}

// The network is as large as one can be.
func TestLargestNetworks(t *testing.T) {
	r := rand.New(rand.NewSource(1212))
	for _, numbers := range [][]int{{0}, {0, 1}, {30, 100, 300, 600}} {
		q := question{n: 2000, from: r.Intn(2000), start: 500, high: true}
		for range 20000 {
			q.arcs = append(q.arcs, randomArc(r, 2000, numbers))
		}
		labels := early(t, q)
		if e := q.check(labels); e != api.OK {
			t.Error(e)
		}
		for _, node := range []int{0, 1000, 1999} {
			one := labels[node]
			labels[node].Time++
			if e := q.check(labels); e != api.ErrCheck {
				t.Errorf("%d is later: %d", node, e)
			}
			labels[node] = one
		}
	}
}

// Labels that are accepted may have other arcs than those of the search, but no other times: each node is given another arc, here and there.
func TestAcceptedTimesAreTheEarliest(t *testing.T) {
	r := rand.New(rand.NewSource(1213))
	same, other := 0, 0
	for _, q := range randomQuestions(1214, 6000, 9, 40) {
		want := early(t, q)
		for range 10 {
			labels := slices.Clone(want)
			for _, i := range r.Perm(len(q.arcs))[:r.Intn(len(q.arcs)+1)/2] {
				labels[q.arcs[i].To].By = i
			}
			if r.Intn(4) == 0 {
				labels = forced(r, q)
			}
			if q.check(labels) != api.OK {
				continue
			}
			if !slices.Equal(times(labels), times(want)) {
				t.Errorf("%v: %v is accepted, and not only %v", q, labels, want)
			}
			if slices.Equal(labels, want) {
				same++
			} else {
				other++
			}
		}
	}
	if same < 1000 || other < 1000 {
		t.Error(same, other)
	}
}

// P12.5

// taken returns when one arrives who takes a way; which part of the span of an arc it takes, is up to part.
func taken(arcs []api.Arc, way []int, start int, part func(low, high int) int) int {
	for _, i := range way {
		u, _ := entered(arcs[i], start, true)
		start = u + part(minutes(arcs[i], u, false), minutes(arcs[i], u, true))
	}
	return start
}

func TestWhoTakesAWayArrivesInTheSpan(t *testing.T) {
	r := rand.New(rand.NewSource(1215))
	parts := []func(low, high int) int{
		func(low, high int) int { return low },
		func(low, high int) int { return low + r.Intn(high-low+1) },
		func(low, high int) int { return []int{low, high}[r.Intn(2)] },
	}
	inside := 0
	for _, q := range randomQuestions(1216, 4000, 6, 30) {
		way := randomWay(r, q.arcs, r.Intn(10))
		low, high, e := Span(q.arcs, way, q.start)
		if e != api.OK {
			continue
		}
		end := q.from
		if len(way) > 0 {
			q.from, end = q.arcs[way[0]].From, q.arcs[way[len(way)-1]].To
		}
		q.high = false
		earliest := early(t, q)[end].Time
		if got := taken(q.arcs, way, q.start, func(low, high int) int { return high }); got != high {
			t.Errorf("%v by %v: who is always late arrives at %d, not at %d", q, way, got, high)
		}
		for range 4 {
			for _, part := range parts {
				got := taken(q.arcs, way, q.start, part)
				if got < low || got > high || earliest == -1 || got < earliest {
					t.Errorf("%v by %v: one arrives at %d, and not from %d to %d, or before %d", q, way, got, low, high, earliest)
				}
				if got > low && got < high {
					inside++
				}
			}
		}
	}
	if inside < 1000 {
		t.Error(inside)
	}
}

// Where each hour is as good as the others one does not wait: the ends are the sums of the bounds.
func TestSpanWithoutHours(t *testing.T) {
	r := rand.New(rand.NewSource(1217))
	for range 300 {
		var arcs []api.Arc
		for range 1 + r.Intn(12) {
			low := r.Intn(300)
			arcs = append(arcs, wide(r.Intn(4), r.Intn(4), low, low+r.Intn(300)))
		}
		way, start := randomWay(r, arcs, r.Intn(10)), r.Intn(5000)
		low, high, e := Span(arcs, way, start)
		least, most := start, start
		for _, i := range way {
			least, most = least+arcs[i].Low[0], most+arcs[i].High[0]
		}
		if low != least || high != most || e != api.OK {
			t.Errorf("%v by %v: %d, %d, %d, not %d, %d", arcs, way, low, high, e, least, most)
		}
	}
}

// P12.6

func TestSpanOfTheWaysOfLabels(t *testing.T) {
	ways := 0
	for _, q := range append(randomQuestions(1218, 3000, 9, 40), randomQuestions(1219, 20, 100, 800)...) {
		q.high = true
		labels := early(t, q)
		for node, one := range labels {
			if one.Time == -1 {
				continue
			}
			way := road.Way(labels, q.arcs, node)
			low, high, e := Span(q.arcs, way, q.start)
			if high != one.Time || low > high || e != api.OK {
				t.Errorf("%v: by %v one is at %d from %d to %d, not to %d: %d", q, way, node, low, high, one.Time, e)
			}
			ways++
		}
	}
	if ways < 5000 {
		t.Error(ways)
	}
}
