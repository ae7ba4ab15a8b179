package road

import (
	"math"
	"math/rand"
	"slices"
	"sync"
	"testing"

	"tonneau/api"
	"tonneau/clock"
)

// lastTime is the greatest time.
const lastTime = 1048576

// notTimes are numbers that are not times; some are times where an int is cut.
var notTimes = []int{-1, -2, -60, -1440, lastTime + 1, lastTime + 2, lastTime + 600, 1 << 31, 1 << 32, 1<<32 + 480, -1 << 32, math.MinInt, math.MinInt + 480, math.MaxInt}

// both are the bounds.
var both = []bool{false, true}

// flat returns the same minutes for each hour.
func flat(n int) []int {
	return slices.Repeat([]int{n}, 24)
}

// but returns the same minutes for each hour but one.
func but(n, hour, other int) []int {
	l := flat(n)
	l[hour] = other
	return l
}

// fixed returns an arc that takes the same minutes in all hours, at both bounds.
func fixed(from, to, took int) api.Arc {
	return api.Arc{From: from, To: to, Low: flat(took), High: flat(took)}
}

// example is the network of the chapter; it has three nodes.
func example() []api.Arc {
	return []api.Arc{{From: 0, To: 1, Low: but(5, 0, 10), High: but(5, 0, 20)}, fixed(1, 2, 10), fixed(0, 2, 40)}
}

// network is arcs for a number of nodes.
type network struct {
	n    int
	arcs []api.Arc
}

// randomArc returns an arc between two of n nodes, whose minutes are from a list: the same in all hours, or of each hour its own.
func randomArc(r *rand.Rand, n int, numbers []int) api.Arc {
	a := api.Arc{From: r.Intn(n), To: r.Intn(n), Low: make([]int, 24), High: make([]int, 24)}
	same := r.Intn(2) == 0
	for hour := range 24 {
		if same && hour > 0 {
			a.Low[hour], a.High[hour] = a.Low[0], a.High[0]
			continue
		}
		x, y := numbers[r.Intn(len(numbers))], numbers[r.Intn(len(numbers))]
		a.Low[hour], a.High[hour] = min(x, y), max(x, y)
	}
	return a
}

// randomNetwork returns some nodes and arcs; minutes from a short list make that many ways take the same time.
func randomNetwork(r *rand.Rand, nodes, arcs int) network {
	lists := [][]int{{0}, {0, 1}, {0, 10}, {10, 20}, {10}, {0, 1, 2, 3, 4, 5, 6, 7, 8, 9}, {0, 60, 120}, {0, 600}, {5, 59, 60, 61, 130, 240, 600}}
	numbers := lists[r.Intn(len(lists))]
	w := network{n: 1 + r.Intn(nodes)}
	for range r.Intn(arcs + 1) {
		w.arcs = append(w.arcs, randomArc(r, w.n, numbers))
	}
	return w
}

// randomNetworks returns so many networks.
func randomNetworks(seed int64, count, nodes, arcs int) []network {
	r := rand.New(rand.NewSource(seed))
	l := make([]network, count)
	for i := range l {
		l[i] = randomNetwork(r, nodes, arcs)
	}
	return l
}

// someTime returns a time: an early one, a late one, or any.
func someTime(r *rand.Rand) int {
	switch r.Intn(4) {
	case 0:
		return lastTime - r.Intn(700)
	case 1:
		return r.Intn(lastTime + 1)
	}
	return r.Intn(1800)
}

// times returns the times of labels.
func times(labels []api.Label) []int {
	l := make([]int, len(labels))
	for i := range labels {
		l[i] = labels[i].Time
	}
	return l
}

// mustEarly returns the labels of the earliest times, where there is no error.
func mustEarly(t *testing.T, w network, from, start int, high bool) []api.Label {
	t.Helper()
	labels, e := Early(w.n, w.arcs, from, start, high)
	if e != api.OK || len(labels) != w.n {
		t.Fatalf("%v: Early from %d at %d, %v: %v, %d", w, from, start, high, labels, e)
	}
	return labels
}

// mustLate returns the labels of the latest times, where there is no error.
func mustLate(t *testing.T, w network, to, by int) []api.Label {
	t.Helper()
	labels, e := Late(w.n, w.arcs, to, by)
	if e != api.OK || len(labels) != w.n {
		t.Fatalf("%v: Late to %d by %d: %v, %d", w, to, by, labels, e)
	}
	return labels
}

// notRight are networks that are almost right.
func notRight() []network {
	var l []network
	for _, n := range []int{0, -1, -3, 2001, 2002, 1 << 32, 1<<32 + 3, math.MinInt, math.MaxInt} {
		l = append(l, network{n, nil}, network{n, example()}, network{n, []api.Arc{fixed(0, 0, 1)}})
	}
	for i := range 3 {
		for _, change := range []func(a *api.Arc){
			func(a *api.Arc) { a.From = 3 },
			func(a *api.Arc) { a.To = 3 },
			func(a *api.Arc) { a.From, a.To = 3, 3 },
			func(a *api.Arc) { a.From = 2000 },
			func(a *api.Arc) { a.To = math.MaxInt },
			func(a *api.Arc) { a.From = 1 << 32 },
			func(a *api.Arc) { a.From = -1 },
			func(a *api.Arc) { a.To = -1 },
			func(a *api.Arc) { a.To = math.MinInt },
			func(a *api.Arc) { a.Low = a.Low[1:] },
			func(a *api.Arc) { a.High = append(slices.Clone(a.High), 40) },
			func(a *api.Arc) { a.Low, a.High = nil, nil },
			func(a *api.Arc) { a.Low = but(5, 23, -1) },
			func(a *api.Arc) { a.Low = but(5, 0, 41) },
			func(a *api.Arc) { a.High = but(40, 12, 601) },
			func(a *api.Arc) { *a = api.Arc{} },
		} {
			arcs := example()
			change(&arcs[i])
			l = append(l, network{3, arcs})
		}
	}
	return append(l, network{3, slices.Repeat([]api.Arc{fixed(0, 1, 1)}, 20001)}, network{1, slices.Repeat([]api.Arc{fixed(0, 0, 0)}, 30000)})
}

// P11.1

func TestRight(t *testing.T) {
	for i, w := range []network{
		{1, nil}, {1, []api.Arc{}}, {1, []api.Arc{fixed(0, 0, 600)}}, {3, example()}, {4, example()}, {2000, example()}, {2000, nil},
		{2000, []api.Arc{fixed(1999, 0, 0), fixed(0, 1999, 600), fixed(1999, 1999, 1)}},
		{2, slices.Repeat([]api.Arc{fixed(0, 1, 1)}, 20000)},
		{2, []api.Arc{fixed(0, 1, 1), fixed(0, 1, 1), fixed(1, 0, 1)}},
	} {
		if !Right(w.n, w.arcs) {
			t.Errorf("%d is not right", i)
		}
	}
	for i, w := range notRight() {
		if Right(w.n, w.arcs) {
			t.Errorf("%d is right, for %d nodes", i, w.n)
		}
	}
	for i, w := range randomNetworks(1101, 300, 9, 30) {
		for n := -1; n < 12; n++ {
			if got, want := Right(n, w.arcs), modelRight(n, w.arcs); got != want {
				t.Errorf("%d for %d nodes: %v", i, n, got)
			}
		}
	}
}

func TestEarlyExamples(t *testing.T) {
	none := api.Label{Time: -1, By: -1}
	for i, c := range []struct {
		from, start int
		high        bool
		want        []api.Label
	}{
		{0, 0, false, []api.Label{{Time: 0, By: -1}, {Time: 10, By: 0}, {Time: 20, By: 1}}},
		{0, 0, true, []api.Label{{Time: 0, By: -1}, {Time: 20, By: 0}, {Time: 30, By: 1}}},
		{0, 50, true, []api.Label{{Time: 50, By: -1}, {Time: 65, By: 0}, {Time: 75, By: 1}}},
		{0, 50, false, []api.Label{{Time: 50, By: -1}, {Time: 60, By: 0}, {Time: 70, By: 1}}},
		{1, 7, true, []api.Label{none, {Time: 7, By: -1}, {Time: 17, By: 1}}},
		{2, 0, true, []api.Label{none, none, {Time: 0, By: -1}}},
		{0, lastTime, true, []api.Label{{Time: lastTime, By: -1}, none, none}},
		{0, lastTime - 5, true, []api.Label{{Time: lastTime - 5, By: -1}, {Time: lastTime, By: 0}, none}},
		{0, lastTime - 14, true, []api.Label{{Time: lastTime - 14, By: -1}, {Time: lastTime - 9, By: 0}, none}},
		{0, lastTime - 15, true, []api.Label{{Time: lastTime - 15, By: -1}, {Time: lastTime - 10, By: 0}, {Time: lastTime, By: 1}}},
		{0, lastTime - 6, true, []api.Label{{Time: lastTime - 6, By: -1}, {Time: lastTime - 1, By: 0}, none}},
	} {
		if got, e := Early(3, example(), c.from, c.start, c.high); e != api.OK || !slices.Equal(got, c.want) {
			t.Errorf("%d: %v, %d, not %v", i, got, e, c.want)
		}
	}
}

func TestLateExamples(t *testing.T) {
	none := api.Label{Time: -1, By: -1}
	for i, c := range []struct {
		to, by int
		want   []api.Label
	}{
		{2, 75, []api.Label{{Time: 60, By: 0}, {Time: 65, By: 1}, {Time: 75, By: -1}}},
		{2, 29, []api.Label{none, {Time: 19, By: 1}, {Time: 29, By: -1}}},
		{2, 30, []api.Label{{Time: 0, By: 0}, {Time: 20, By: 1}, {Time: 30, By: -1}}},
		{2, 9, []api.Label{none, none, {Time: 9, By: -1}}},
		{2, 10, []api.Label{none, {Time: 0, By: 1}, {Time: 10, By: -1}}},
		{2, 0, []api.Label{none, none, {Time: 0, By: -1}}},
		{1, 64, []api.Label{{Time: 44, By: 0}, {Time: 64, By: -1}, none}},
		{1, 65, []api.Label{{Time: 60, By: 0}, {Time: 65, By: -1}, none}},
		{0, 1000, []api.Label{{Time: 1000, By: -1}, none, none}},
		{2, lastTime, []api.Label{{Time: lastTime - 15, By: 0}, {Time: lastTime - 10, By: 1}, {Time: lastTime, By: -1}}},
	} {
		if got, e := Late(3, example(), c.to, c.by); e != api.OK || !slices.Equal(got, c.want) {
			t.Errorf("%d: %v, %d, not %v", i, got, e, c.want)
		}
	}
}

// Where one is as good as another, the number of the node and the index of the arc decide.
func TestTies(t *testing.T) {
	// Two ways over 1 and 2 take the same: the arc with the smaller index counts, whichever node is settled first.
	arcs := []api.Arc{fixed(2, 3, 7), fixed(1, 3, 7), fixed(0, 1, 7), fixed(0, 2, 7), fixed(0, 2, 7)}
	early := mustEarly(t, network{4, arcs}, 0, 0, true)
	if want := []api.Label{{Time: 0, By: -1}, {Time: 7, By: 2}, {Time: 7, By: 3}, {Time: 14, By: 0}}; !slices.Equal(early, want) {
		t.Error(early)
	}
	late := mustLate(t, network{4, arcs}, 3, 20)
	if want := []api.Label{{Time: 6, By: 2}, {Time: 13, By: 1}, {Time: 13, By: 0}, {Time: 20, By: -1}}; !slices.Equal(late, want) {
		t.Error(late)
	}
	// A node that is settled keeps its arc, though one with a smaller index arrives just as early: 1 is settled before 2.
	arcs = []api.Arc{fixed(2, 1, 0), fixed(0, 1, 5), fixed(0, 2, 5), fixed(1, 0, 0), fixed(2, 2, 0)}
	early = mustEarly(t, network{3, arcs}, 0, 0, false)
	if want := []api.Label{{Time: 0, By: -1}, {Time: 5, By: 1}, {Time: 5, By: 2}}; !slices.Equal(early, want) {
		t.Error(early)
	}
	arcs = []api.Arc{fixed(1, 2, 0), fixed(1, 0, 5), fixed(2, 0, 5), fixed(0, 1, 0), fixed(2, 2, 0)}
	late = mustLate(t, network{3, arcs}, 0, 9)
	if want := []api.Label{{Time: 9, By: -1}, {Time: 4, By: 1}, {Time: 4, By: 2}}; !slices.Equal(late, want) {
		t.Error(late)
	}
	// With 0 minutes between them, and 2 reached first, the arc with the smaller index is taken, because 1 is not settled.
	arcs = []api.Arc{fixed(1, 2, 0), fixed(0, 2, 5), fixed(0, 1, 5)}
	early = mustEarly(t, network{3, arcs}, 0, 0, false)
	if want := []api.Label{{Time: 0, By: -1}, {Time: 5, By: 2}, {Time: 5, By: 0}}; !slices.Equal(early, want) {
		t.Error(early)
	}
}

func TestEarlyAndLateRefuse(t *testing.T) {
	refuse := func(n int, arcs []api.Arc, node, at int) {
		t.Helper()
		for _, high := range both {
			if got, e := Early(n, arcs, node, at, high); len(got) != 0 || e != api.ErrArg {
				t.Errorf("Early from %d of %d at %d: %v, %d", node, n, at, got, e)
			}
		}
		if got, e := Late(n, arcs, node, at); len(got) != 0 || e != api.ErrArg {
			t.Errorf("Late to %d of %d by %d: %v, %d", node, n, at, got, e)
		}
	}
	for _, w := range notRight() {
		for _, node := range []int{-1, 0, 2, 3, w.n - 1, w.n} {
			refuse(w.n, w.arcs, node, 100)
		}
	}
	for _, node := range []int{-1, -2, 3, 4, 2000, 1 << 32, -1 << 32, math.MinInt, math.MaxInt} {
		refuse(3, example(), node, 100)
		refuse(3, nil, node, -1)
	}
	for _, at := range notTimes {
		refuse(3, example(), 0, at)
		refuse(1, nil, 0, at)
	}
}

func TestOneNode(t *testing.T) {
	for _, arcs := range [][]api.Arc{nil, {}, {fixed(0, 0, 0)}, {fixed(0, 0, 600), fixed(0, 0, 1)}} {
		for _, at := range []int{0, 1, 59, 1440, lastTime - 1, lastTime} {
			want := []api.Label{{Time: at, By: -1}}
			if got := mustEarly(t, network{1, arcs}, 0, at, true); !slices.Equal(got, want) {
				t.Error(got)
			}
			if got := mustLate(t, network{1, arcs}, 0, at); !slices.Equal(got, want) {
				t.Error(got)
			}
		}
	}
}

// checkModel compares the labels from and to a node with those of the model.
func checkModel(t *testing.T, w network, node, at int) {
	t.Helper()
	for _, high := range both {
		if got, want := mustEarly(t, w, node, at, high), first(modelEarly(w.n, w.arcs, node, at, high)); !slices.Equal(got, want) {
			t.Fatalf("%v: Early from %d at %d, %v: %v, not %v", w, node, at, high, got, want)
		}
	}
	if got, want := mustLate(t, w, node, at), first(modelLate(w.n, w.arcs, node, at)); !slices.Equal(got, want) {
		t.Fatalf("%v: Late to %d by %d: %v, not %v", w, node, at, got, want)
	}
}

// first returns the first one of two results.
func first(labels []api.Label, _ []int) []api.Label {
	return labels
}

func TestLabelsAreTheModel(t *testing.T) {
	r := rand.New(rand.NewSource(1102))
	for _, w := range append(randomNetworks(1103, 6000, 9, 40), randomNetworks(1104, 100, 60, 400)...) {
		for range 2 {
			checkModel(t, w, r.Intn(w.n), someTime(r))
		}
	}
}

// The network is as large as one can be.
func TestLargestNetworks(t *testing.T) {
	r := rand.New(rand.NewSource(1105))
	for _, numbers := range [][]int{{1, 2, 3}, {0, 1}, {30, 100, 300, 600}} {
		w := network{n: 2000}
		for range 20000 {
			w.arcs = append(w.arcs, randomArc(r, 2000, numbers))
		}
		checkModel(t, w, 1999, 500)
		checkModel(t, w, r.Intn(2000), 10000)
	}
	line := network{n: 2000}
	for node := range 1999 {
		line.arcs = append(line.arcs, fixed(node, node+1, 500))
	}
	checkModel(t, line, 0, 0)
	checkModel(t, line, 1999, lastTime)
	labels := mustEarly(t, line, 0, 0, true)
	if way := Way(labels, line.arcs, 1999); len(way) != 1999 || way[0] != 0 || way[1998] != 1998 || labels[1999].Time != 999500 {
		t.Error(len(way), labels[1999])
	}
}

// The times are those of the definition: it is tried to enter each arc at each time.
func TestTimesAreTheDefinition(t *testing.T) {
	r := rand.New(rand.NewSource(1106))
	for i, w := range randomNetworks(1107, 250, 6, 14) {
		node, start := r.Intn(w.n), r.Intn(600)
		// Each way has at most 5 arcs, of at most 600 minutes each.
		horizon := start + 3000
		if i%3 == 0 {
			start, horizon = lastTime-r.Intn(1500), lastTime
		}
		for _, high := range both {
			if got, want := times(mustEarly(t, w, node, start, high)), triedEarly(w.n, w.arcs, node, start, horizon, high); !slices.Equal(got, want) {
				t.Fatalf("%v: from %d at %d, %v: %v, not %v", w, node, start, high, got, want)
			}
		}
		by := r.Intn(2500)
		if got, want := times(mustLate(t, w, node, by)), triedLate(w.n, w.arcs, node, by); !slices.Equal(got, want) {
			t.Fatalf("%v: to %d by %d: %v, not %v", w, node, by, got, want)
		}
	}
}

// P11.2

func TestWayExamples(t *testing.T) {
	arcs := example()
	low := mustEarly(t, network{3, arcs}, 0, 0, false)
	for to, want := range [][]int{{}, {0}, {0, 1}} {
		if got := Way(low, arcs, to); !slices.Equal(got, want) {
			t.Errorf("to %d: %v, not %v", to, got, want)
		}
	}
	for _, to := range []int{-1, 3, 4, 1 << 32, math.MinInt, math.MaxInt} {
		if got := Way(low, arcs, to); len(got) != 0 {
			t.Errorf("to %d: %v", to, got)
		}
	}
	for to := range 2 {
		if got := Way(mustEarly(t, network{3, arcs}, 2, 0, true), arcs, to); len(got) != 0 {
			t.Errorf("to %d: %v", to, got)
		}
	}
	if got := Way(nil, arcs, 0); len(got) != 0 {
		t.Error(got)
	}
	if got := Way(low, nil, 2); len(got) != 0 {
		t.Error(got)
	}
}

func TestWayOfOddLabels(t *testing.T) {
	// Only the ends of arcs count, and only -1 as a time: neither the arcs nor the labels need to be right.
	arcs := []api.Arc{{From: 0, To: 1}, {From: 1, To: 2}, {From: 2, To: 0}, {From: 3, To: 0}, {From: -1, To: 1}, {From: 2, To: 2}, {From: 7, To: 5}, {From: math.MaxInt, To: 2}}
	l := func(pairs ...int) []api.Label {
		var labels []api.Label
		for i := 0; i < len(pairs); i += 2 {
			labels = append(labels, api.Label{Time: pairs[i], By: pairs[i+1]})
		}
		return labels
	}
	for i, c := range []struct {
		labels []api.Label
		to     int
		want   []int
	}{
		{l(0, -1, 1, 0, 2, 1), 2, []int{0, 1}},
		{l(0, -1, 1, 0, -2, 1), 2, []int{0, 1}},
		{l(0, -1, 1, 0, lastTime+1, 1), 2, []int{0, 1}},
		{l(9, -1, 8, 0, 7, 1), 2, []int{0, 1}},
		{l(-1, -1, -1, 0, 2, 1), 2, []int{0, 1}},
		{l(0, -1, 1, 0, -1, 1), 2, nil},
		{l(0, -1, 1, 0, 2, -1), 2, nil},
		{l(0, -1, 1, -1, 2, 1), 2, []int{1}},
		{l(0, -1, 1, 0, 2, -2), 2, nil},
		{l(0, -1, 1, -2, 2, 1), 2, nil},
		{l(0, -1, 1, 0, 2, 8), 2, nil},
		{l(0, -1, 1, 8, 2, 1), 2, nil},
		{l(0, -1, 1, math.MaxInt, 2, 1), 2, nil},
		{l(0, -1, 1, math.MinInt, 2, 1), 2, nil},
		{l(0, -1, 1, 0, 2, 0), 2, nil},
		{l(0, -1, 1, 1, 2, 1), 2, nil},
		{l(0, -1, 1, 4, 2, 1), 2, nil},
		{l(0, -1, 1, 0, 2, 7), 2, nil},
		{l(0, 2, 1, 0, 2, 1), 2, nil},
		{l(0, 2, 1, 0, 2, 1), 0, nil},
		{l(0, -1, 1, 0, 2, 5), 2, nil},
		{l(0, 3, 1, 0, 2, 1), 2, nil},
		{l(0, 3, 1, 0, 2, 1, 0, -1), 2, []int{3, 0, 1}},
		{l(0, -1, 0, -1, 0, -1, 0, -1, 0, -1, 0, 6), 5, nil},
		{l(0, -1, 0, -1, 0, -1, 0, -1, 0, -1, 0, 6, 0, -1), 5, nil},
		{l(0, -1, 0, -1, 0, -1, 0, -1, 0, -1, 0, 6, 0, -1, 0, -1), 5, []int{6}},
		{l(5, 0), 0, nil},
		{l(5, -1), 0, nil},
	} {
		if got := Way(c.labels, arcs, c.to); !slices.Equal(got, c.want) {
			t.Errorf("%d: %v, not %v", i, got, c.want)
		}
	}
}

// spoil changes a label, or the end of an arc, or takes some of them away.
func spoil(r *rand.Rand, labels []api.Label, arcs []api.Arc) ([]api.Label, []api.Arc) {
	labels, arcs = slices.Clone(labels), slices.Clone(arcs)
	for range r.Intn(3) {
		l := &labels[r.Intn(len(labels))]
		switch r.Intn(7) {
		case 0:
			l.By = r.Intn(len(arcs)+4) - 2
		case 1:
			l.By = -1
		case 2:
			l.Time = -1 - r.Intn(2)
		case 3, 4:
			if len(arcs) > 0 {
				arcs[r.Intn(len(arcs))].From = r.Intn(len(labels)+2) - 1
			}
		case 5:
			arcs = arcs[:r.Intn(len(arcs)+1)]
		case 6:
			labels = labels[:1+r.Intn(len(labels))]
		}
	}
	return labels, arcs
}

func TestWayIsTheModel(t *testing.T) {
	r := rand.New(rand.NewSource(1108))
	none, some, long := 0, 0, 0
	check := func(labels []api.Label, arcs []api.Arc) {
		for to := -1; to <= len(labels); to++ {
			got, want := Way(labels, arcs, to), modelWay(labels, arcs, to)
			if !slices.Equal(got, want) {
				t.Fatalf("%v, %v: to %d: %v, not %v", labels, arcs, to, got, want)
			}
			switch len(got) {
			case 0:
				none++
			case 1:
				some++
			default:
				long++
			}
		}
	}
	for _, w := range randomNetworks(1109, 4000, 9, 30) {
		labels := mustEarly(t, w, r.Intn(w.n), someTime(r), r.Intn(2) == 0)
		check(labels, w.arcs)
		check(spoil(r, labels, w.arcs))
		check(mustLate(t, w, r.Intn(w.n), someTime(r)), w.arcs)
		for i := range labels {
			labels[i] = api.Label{Time: r.Intn(3) - 1, By: r.Intn(len(w.arcs)+2) - 1}
		}
		check(labels, w.arcs)
	}
	if none < 1000 || some < 1000 || long < 1000 {
		t.Error(none, some, long)
	}
}

// P11.3

// deep returns a copy of arcs that shares no memory with them.
func deep(arcs []api.Arc) []api.Arc {
	arcs = slices.Clone(arcs)
	for i := range arcs {
		arcs[i].Low, arcs[i].High = slices.Clone(arcs[i].Low), slices.Clone(arcs[i].High)
	}
	return arcs
}

// sameArcs reports whether arcs are the same, one by one.
func sameArcs(l, other []api.Arc) bool {
	return slices.EqualFunc(l, other, func(a, b api.Arc) bool {
		return a.From == b.From && a.To == b.To && slices.Equal(a.Low, b.Low) && slices.Equal(a.High, b.High)
	})
}

func TestArgumentsStay(t *testing.T) {
	r := rand.New(rand.NewSource(1110))
	for _, w := range randomNetworks(1111, 200, 9, 30) {
		// There is room behind the list for what a careless append would write.
		roomy := append(deep(w.arcs), fixed(7, 7, 7), fixed(8, 8, 8))
		before := deep(roomy)
		w.arcs = roomy[:len(w.arcs)]
		labels := mustEarly(t, w, r.Intn(w.n), someTime(r), true)
		mustLate(t, w, r.Intn(w.n), someTime(r))
		labels = append(labels, api.Label{Time: 9, By: 9})
		copied := slices.Clone(labels)
		for to := range w.n {
			Way(labels[:w.n], w.arcs, to)
		}
		Right(w.n, w.arcs)
		if !sameArcs(roomy, before) || !slices.Equal(labels, copied) {
			t.Errorf("%v was changed", w)
		}
	}
}

func TestResultsShareNothing(t *testing.T) {
	arcs := example()
	early, again := mustEarly(t, network{3, arcs}, 0, 0, true), mustEarly(t, network{3, arcs}, 0, 0, true)
	late, lateAgain := mustLate(t, network{3, arcs}, 2, 75), mustLate(t, network{3, arcs}, 2, 75)
	way, wayAgain := Way(early, arcs, 2), Way(early, arcs, 2)
	want, lateWant := slices.Clone(again), slices.Clone(lateAgain)
	for i := range early {
		early[i], late[i] = api.Label{Time: 5, By: 5}, api.Label{Time: 6, By: 6}
	}
	way[0], way[1] = 7, 7
	if !slices.Equal(again, want) || !slices.Equal(lateAgain, lateWant) || !slices.Equal(wayAgain, []int{0, 1}) {
		t.Error(again, lateAgain, wayAgain)
	}
	if !slices.Equal(mustEarly(t, network{3, arcs}, 0, 0, true), want) || !slices.Equal(mustLate(t, network{3, arcs}, 2, 75), lateWant) || !slices.Equal(Way(want, arcs, 2), []int{0, 1}) || !sameArcs(arcs, example()) {
		t.Error("an earlier result is part of a later one, or of the arcs")
	}
}

// Neither earlier calls nor those of other goroutines make a difference.
func TestPure(t *testing.T) {
	answers := func(w network) []int {
		var out []int
		for node := range w.n {
			early, late := mustEarly(t, w, node, 50, true), mustLate(t, w, node, 1000)
			for to := range w.n {
				out = append(out, early[to].Time, early[to].By, late[to].Time, late[to].By, -9)
				out = append(out, Way(early, w.arcs, to)...)
			}
		}
		return out
	}
	networks := randomNetworks(1112, 100, 9, 30)
	want := make([][]int, len(networks))
	for i, w := range networks {
		want[i] = answers(w)
	}
	var all sync.WaitGroup
	for range 4 {
		all.Go(func() {
			for i := len(networks) - 1; i >= 0; i-- {
				if !slices.Equal(answers(networks[i]), want[i]) {
					t.Errorf("%v answers otherwise", networks[i])
				}
			}
		})
	}
	all.Wait()
}

// P11.4

// passed returns when one arrives by a way, or -1, if it is not connected from a node on, or does not lead to the other one.
func passed(w network, way []int, from, to, start int, high bool) int {
	for _, i := range way {
		if w.arcs[i].From != from {
			return -1
		}
		start = clock.Pass(w.arcs[i], start, high)
		from = w.arcs[i].To
	}
	if from != to {
		return -1
	}
	return start
}

func TestWaysArriveAtTheirTimes(t *testing.T) {
	r := rand.New(rand.NewSource(1113))
	for _, w := range append(randomNetworks(1114, 1500, 9, 40), randomNetworks(1115, 30, 100, 800)...) {
		from, start, high := r.Intn(w.n), someTime(r), r.Intn(2) == 0
		labels := mustEarly(t, w, from, start, high)
		if labels[from] != (api.Label{Time: start, By: -1}) {
			t.Errorf("%v: %v", w, labels[from])
		}
		for node, l := range labels {
			way := Way(labels, w.arcs, node)
			if l.Time == -1 {
				if l.By != -1 || len(way) != 0 {
					t.Errorf("%v: %v leads to %d", w, way, node)
				}
				continue
			}
			if got := passed(w, way, from, node, start, high); got != l.Time || got > lastTime {
				t.Errorf("%v: by %v one arrives at %d at %d, not at %d", w, way, node, got, l.Time)
			}
		}
		for i, a := range w.arcs {
			if labels[a.From].Time == -1 {
				continue
			}
			arrival := clock.Pass(a, labels[a.From].Time, high)
			if there := labels[a.To].Time; arrival <= lastTime && (there == -1 || there > arrival) {
				t.Errorf("%v: by the arc %d one arrives at %d, and not at %d", w, i, arrival, there)
			}
		}
	}
}

// P11.5

// notLater reports whether one is nowhere later by some labels than by others.
func notLater(labels, others []api.Label) bool {
	for node, l := range labels {
		if others[node].Time != -1 && (l.Time == -1 || l.Time > others[node].Time) {
			return false
		}
	}
	return true
}

func TestLowIsNotLaterThanHigh(t *testing.T) {
	r := rand.New(rand.NewSource(1116))
	for _, w := range randomNetworks(1117, 1500, 9, 40) {
		from, start := r.Intn(w.n), someTime(r)
		if low, high := mustEarly(t, w, from, start, false), mustEarly(t, w, from, start, true); !notLater(low, high) {
			t.Errorf("%v: from %d at %d: %v, %v", w, from, start, low, high)
		}
	}
}

func TestLaterStartIsNotEarlier(t *testing.T) {
	r := rand.New(rand.NewSource(1118))
	for _, w := range randomNetworks(1119, 1500, 9, 40) {
		from, high := r.Intn(w.n), r.Intn(2) == 0
		start, other := someTime(r), someTime(r)
		start, other = min(start, other), max(start, other)
		for _, later := range []int{min(start+1, lastTime), min(start+r.Intn(200), lastTime), other} {
			if l, k := mustEarly(t, w, from, start, high), mustEarly(t, w, from, later, high); !notLater(l, k) {
				t.Errorf("%v: from %d at %d and %d: %v, %v", w, from, start, later, l, k)
			}
		}
	}
}

func TestOneMoreArc(t *testing.T) {
	r := rand.New(rand.NewSource(1120))
	for _, w := range randomNetworks(1121, 1500, 9, 40) {
		from, start, high := r.Intn(w.n), someTime(r), r.Intn(2) == 0
		more := network{w.n, slices.Insert(slices.Clone(w.arcs), r.Intn(len(w.arcs)+1), randomArc(r, w.n, []int{0, 1, 10, 60, 600}))}
		if l, k := mustEarly(t, more, from, start, high), mustEarly(t, w, from, start, high); !notLater(l, k) {
			t.Errorf("%v: from %d at %d: %v, %v", more, from, start, l, k)
		}
		if l, k := mustLate(t, more, from, start), mustLate(t, w, from, start); slices.ContainsFunc(seq(w.n), func(node int) bool { return l[node].Time < k[node].Time }) {
			t.Errorf("%v: to %d by %d: %v, %v", more, from, start, l, k)
		}
	}
}

// seq returns the numbers from 0 on that are less than n.
func seq(n int) []int {
	l := make([]int, n)
	for i := range l {
		l[i] = i
	}
	return l
}

// P11.6

func TestLatestTimes(t *testing.T) {
	r := rand.New(rand.NewSource(1122))
	for _, w := range randomNetworks(1123, 1500, 8, 40) {
		to, by := r.Intn(w.n), someTime(r)
		inTime := func(node, start int) bool {
			arrival := mustEarly(t, w, node, start, true)[to].Time
			return arrival != -1 && arrival <= by
		}
		for node, l := range mustLate(t, w, to, by) {
			if l.Time >= 0 && !inTime(node, l.Time) {
				t.Errorf("%v: who leaves %d at %d is at %d later than %d", w, node, l.Time, to, by)
			}
			if l.Time < lastTime && inTime(node, l.Time+1) {
				t.Errorf("%v: who leaves %d at %d is at %d by %d", w, node, l.Time+1, to, by)
			}
		}
	}
}

// The label of each node has the arc that is to be taken first: one takes it at the latest time of the node, or later, and is at its end in time.
func TestLateLabelsHaveTheFirstArc(t *testing.T) {
	r := rand.New(rand.NewSource(1124))
	for _, w := range randomNetworks(1125, 1500, 9, 40) {
		to, by := r.Intn(w.n), someTime(r)
		labels := mustLate(t, w, to, by)
		for node, l := range labels {
			steps := 0
			for at := node; l.Time != -1 && at != to; steps++ {
				if steps > w.n || labels[at].By < 0 || w.arcs[labels[at].By].From != at {
					t.Fatalf("%v: %v: one does not come from %d to %d", w, labels, node, to)
				}
				a := w.arcs[labels[at].By]
				if clock.Pass(a, labels[at].Time, true) > labels[a.To].Time {
					t.Fatalf("%v: %v: one comes too late from %d to %d", w, labels, at, a.To)
				}
				at = a.To
			}
			if l.Time == -1 && l.By != -1 {
				t.Errorf("%v: %v", w, labels)
			}
		}
	}
}

// Ways

// The iterator yields the nodes in the order in which they are settled, with their times, and ends when one leaves it.
func TestNodesAreSettledInOrder(t *testing.T) {
	r := rand.New(rand.NewSource(1126))
	for _, w := range randomNetworks(1127, 2000, 9, 40) {
		node, at := r.Intn(w.n), someTime(r)
		labels, order := modelEarly(w.n, w.arcs, node, at, true)
		checkOrder(t, w, node, at, false, r.Intn(w.n), labels, order)
		labels, order = modelLate(w.n, w.arcs, node, at)
		checkOrder(t, w, node, at, true, r.Intn(w.n), labels, order)
	}
}

// checkOrder goes through the nodes twice: it leaves the first time after some of them.
func checkOrder(t *testing.T, w network, node, at int, back bool, some int, labels []api.Label, order []int) {
	t.Helper()
	s := begin(w.n, node, at, back)
	var got []int
	visit := func(node, time int) {
		got = append(got, node)
		if time != labels[node].Time {
			t.Errorf("%v: %d is settled at %d, not %d", w, node, time, labels[node].Time)
		}
		for i, a := range w.arcs {
			if !back && a.From == node {
				s.reach(a.To, clock.Pass(a, time, true), i)
			} else if back && a.To == node {
				s.reach(a.From, clock.Last(a, time, true), i)
			}
		}
	}
	for node, time := range s.settle() {
		visit(node, time)
		if len(got) > some {
			break
		}
	}
	if len(got) != min(some+1, len(order)) {
		t.Errorf("%v: %d nodes are settled", w, len(got))
	}
	for node, time := range s.settle() {
		visit(node, time)
	}
	if !slices.Equal(got, order) || !slices.Equal(s.labels, labels) {
		t.Errorf("%v: settled are %v, not %v", w, got, order)
	}
}
