package clock

import (
	"math"
	"math/rand"
	"slices"
	"sync"
	"testing"

	"tonneau/api"
)

// lastTime is the greatest time: its hour is 4, of which it is the minute 16.
const lastTime = 1048576

// notTimes are numbers that are not times; some are times where an int is cut.
var notTimes = []int{-1, -2, -59, -60, -61, -1440, lastTime + 1, lastTime + 2, lastTime + 60, 1 << 31, 1 << 32, 1<<32 + 480, -1 << 32, math.MinInt, math.MinInt + 1, math.MinInt + 480, math.MaxInt, math.MaxInt - 1}

// both are the bounds.
var both = []bool{false, true}

// hours returns the minutes that f names for each hour.
func hours(f func(hour int) int) []int {
	out := make([]int, 24)
	for hour := range out {
		out[hour] = f(hour)
	}
	return out
}

// flat returns the same minutes for each hour.
func flat(n int) []int {
	return hours(func(int) int { return n })
}

// but returns the same minutes for each hour but one.
func but(n, hour, other int) []int {
	l := flat(n)
	l[hour] = other
	return l
}

// example is the arc of the chapter.
func example() api.Arc {
	return api.Arc{From: 0, To: 1, Low: flat(10), High: but(20, 8, 50)}
}

// randomArc returns a valid arc, whose numbers are from a list.
func randomArc(r *rand.Rand, numbers []int) api.Arc {
	a := api.Arc{From: r.Intn(5), To: r.Intn(5), Low: make([]int, 24), High: make([]int, 24)}
	for hour := range 24 {
		x, y := numbers[r.Intn(len(numbers))], numbers[r.Intn(len(numbers))]
		a.Low[hour], a.High[hour] = min(x, y), max(x, y)
	}
	return a
}

// upTo returns the numbers from 0 to n.
func upTo(n int) []int {
	l := make([]int, n+1)
	for i := range l {
		l[i] = i
	}
	return l
}

// ruledArcs are valid arcs that follow short rules: at the bounds of what is valid, with steps, and with slopes on which waiting is just of use, and just not.
func ruledArcs() []api.Arc {
	l := []api.Arc{
		example(),
		{Low: flat(0), High: flat(0)},
		{Low: flat(600), High: flat(600)},
		{Low: flat(0), High: flat(600)},
		{From: math.MaxInt, To: math.MaxInt, Low: flat(0), High: but(600, 0, 0)},
		{From: 3, To: 3, Low: but(600, 23, 0), High: flat(600)},
		{Low: but(600, 5, 0), High: but(600, 5, 1)},
		{Low: but(600, 4, 0), High: but(600, 4, 599)},
		{Low: hours(func(h int) int { return 25 * h }), High: hours(func(h int) int { return 25*h + 25 })},
		{Low: hours(func(h int) int { return 24 * (23 - h) }), High: hours(func(h int) int { return 25 * (24 - h) })},
	}
	for _, step := range []int{58, 59, 60, 61, 62} {
		saw := func(more int) []int {
			return hours(func(h int) int { return min(step*(9-h%10)+more, 600) })
		}
		l = append(l, api.Arc{Low: saw(0), High: saw(20)})
	}
	return l
}

// someArcs are the arcs that follow rules, and random ones.
func someArcs(seed int64) []api.Arc {
	r := rand.New(rand.NewSource(seed))
	l := ruledArcs()
	for range 12 {
		for _, numbers := range [][]int{{0, 1}, {0, 600}, {0, 1, 59, 60, 61, 599, 600}, upTo(30), upTo(130), upTo(600)} {
			l = append(l, randomArc(r, numbers))
		}
	}
	return l
}

// spoiled returns arcs that are almost valid.
func spoiled() []api.Arc {
	var l []api.Arc
	add := func(change func(a *api.Arc)) {
		a := example()
		change(&a)
		l = append(l, a)
	}
	add(func(a *api.Arc) { *a = api.Arc{} })
	for _, n := range []int{-1, -2, -1 << 32, math.MinInt} {
		add(func(a *api.Arc) { a.From = n })
		add(func(a *api.Arc) { a.To = n })
		add(func(a *api.Arc) { a.From, a.To = n, n })
	}
	for _, n := range []int{0, 1, 23, 25, 48, 280} {
		add(func(a *api.Arc) { a.Low = make([]int, n) })
		add(func(a *api.Arc) { a.High = slices.Repeat([]int{50}, n) })
		add(func(a *api.Arc) { a.Low, a.High = make([]int, n), make([]int, n) })
	}
	add(func(a *api.Arc) { a.Low = nil })
	add(func(a *api.Arc) { a.High = nil })
	for hour := range 24 {
		for _, n := range []int{-1, -600, 601, -1 << 32, math.MinInt, math.MaxInt} {
			add(func(a *api.Arc) { a.Low[hour] = n })
			add(func(a *api.Arc) { a.High[hour] = n })
			add(func(a *api.Arc) { a.Low[hour], a.High[hour] = n, n })
		}
		add(func(a *api.Arc) { a.Low[hour], a.High[hour] = 31, 30 })
		add(func(a *api.Arc) { a.Low[hour], a.High[hour] = 600, 599 })
		add(func(a *api.Arc) { a.Low[hour], a.High[hour] = 1, 0 })
	}
	return l
}

// ends yields the times of the first days and of the last ones, and some numbers beside them, up to wide.
func ends(wide int, yield func(t int)) {
	for t := -wide; t <= 2*1440; t++ {
		yield(t)
	}
	for t := lastTime - 2*1440; t <= lastTime+wide; t++ {
		yield(t)
	}
}

// P10.1

func TestRight(t *testing.T) {
	for i, a := range someArcs(101) {
		if !Right(a) {
			t.Errorf("%d: %v is not valid", i, a)
		}
	}
	for hour := range 24 {
		for _, p := range []api.Window{{Early: 0, Late: 0}, {Early: 0, Late: 600}, {Early: 600, Late: 600}, {Early: 599, Late: 600}, {Early: 31, Late: 31}} {
			a := example()
			a.Low[hour], a.High[hour] = p.Early, p.Late
			if !Right(a) {
				t.Errorf("%v is not valid", a)
			}
		}
	}
	for _, a := range spoiled() {
		if Right(a) {
			t.Errorf("%v is valid", a)
		}
	}
	// One list may serve for both bounds.
	l := flat(7)
	if !Right(api.Arc{Low: l, High: l}) {
		t.Error("one list")
	}
}

func TestTookExamples(t *testing.T) {
	for _, c := range []struct {
		t    int
		high bool
		want int
	}{
		{0, true, 20}, {479, true, 20}, {480, true, 50}, {539, true, 50}, {540, true, 20}, {1919, true, 20}, {1920, true, 50}, {1979, true, 50}, {1980, true, 20}, {479, false, 10}, {480, false, 10}, {540, false, 10}, {lastTime, true, 20}, {lastTime, false, 10},
	} {
		if got := Took(example(), c.t, c.high); got != c.want {
			t.Errorf("Took at %d, %v is %d, not %d", c.t, c.high, got, c.want)
		}
	}
	// The hour of the greatest time is 4, not the one after 23.
	a := api.Arc{Low: hours(func(h int) int { return h }), High: hours(func(h int) int { return 600 - h })}
	if low, high := Took(a, lastTime, false), Took(a, lastTime, true); low != 4 || high != 596 {
		t.Error(low, high)
	}
	if low, high := Took(a, 1439, false), Took(a, 1440, true); low != 23 || high != 600 {
		t.Error(low, high)
	}
}

func TestPassExamples(t *testing.T) {
	// The first example of DOC.md: 30 minutes from 10:00 on, and 10 from 11:00 on.
	road := api.Arc{Low: but(10, 10, 30), High: but(10, 10, 30)}
	// A good hour is waited for over midnight, but not beyond the greatest time.
	night := api.Arc{Low: but(600, 0, 0), High: flat(600)}
	five := api.Arc{Low: but(600, 5, 0), High: but(600, 5, 0)}
	for _, c := range []struct {
		a    api.Arc
		t    int
		high bool
		want int
	}{
		{example(), 479, true, 499}, {example(), 480, true, 530}, {example(), 535, true, 560}, {example(), 540, true, 560}, {example(), 490, false, 500},
		{example(), 510, true, 560}, {example(), 509, true, 559}, {example(), lastTime, true, lastTime + 20},
		{road, 650, true, 670}, {road, 639, false, 669}, {road, 640, false, 670}, {road, 641, false, 670}, {road, 660, false, 670},
		{night, 23*60 + 59, false, 1440}, {night, 14 * 60, false, 1440}, {night, 14*60 - 1, false, 14*60 - 1 + 600}, {night, 14*60 + 1, false, 1440}, {night, 1500, false, 2100},
		{five, lastTime, true, lastTime + 600}, {five, lastTime - 1440, true, lastTime - 16 + 60 - 1440},
	} {
		if got := Pass(c.a, c.t, c.high); got != c.want {
			t.Errorf("Pass of %v at %d, %v is %d, not %d", c.a, c.t, c.high, got, c.want)
		}
	}
}

// One can enter at the greatest time, and not after it: waiting for an hour that begins then is not possible.
func TestPassEnds(t *testing.T) {
	for hour := range 24 {
		a := api.Arc{Low: but(600, hour, 0), High: but(600, hour, 0)}
		for _, u := range []int{lastTime, lastTime - 1, lastTime - 16} {
			want := u + 600
			if hour == 4 {
				want = u
			}
			if got := Pass(a, u, true); got != want {
				t.Errorf("hour %d: Pass at %d is %d, not %d", hour, u, got, want)
			}
		}
		// The last hour begins 16 minutes before the greatest time.
		want := lastTime - 17 + 600
		switch hour {
		case 3:
			want = lastTime - 17
		case 4:
			want = lastTime - 16
		}
		if got := Pass(a, lastTime-17, false); got != want {
			t.Errorf("hour %d: Pass at %d is %d, not %d", hour, lastTime-17, got, want)
		}
	}
}

func TestTookAndPassRefuse(t *testing.T) {
	for _, high := range both {
		for _, a := range ruledArcs() {
			for _, u := range notTimes {
				if took, pass := Took(a, u, high), Pass(a, u, high); took != -1 || pass != -1 {
					t.Errorf("%d: %d, %d", u, took, pass)
				}
			}
		}
		for _, a := range spoiled() {
			for _, u := range append(notTimes, 0, 479, 480, 535, 600, 1439, 1440, 500000, lastTime-1, lastTime) {
				if took, pass := Took(a, u, high), Pass(a, u, high); took != -1 || pass != -1 {
					t.Errorf("%v at %d: %d, %d", a, u, took, pass)
				}
			}
		}
	}
}

func TestTookAndPassAreTheModel(t *testing.T) {
	for _, high := range both {
		for _, a := range someArcs(102) {
			arrivals := modelArrivals(a, high)
			ends(100, func(u int) {
				want := -1
				if u >= 0 && u <= lastTime {
					want = arrivals[u]
				}
				if took, pass := Took(a, u, high), Pass(a, u, high); took != modelTook(a, u, high) || pass != want {
					t.Fatalf("%v at %d, %v: %d, %d, not %d, %d", a, u, high, took, pass, modelTook(a, u, high), want)
				}
			})
		}
	}
}

func TestAllTimesAreTheModel(t *testing.T) {
	r := rand.New(rand.NewSource(103))
	for _, a := range []api.Arc{example(), randomArc(r, upTo(100)), randomArc(r, upTo(600))} {
		for _, high := range both {
			for u, want := range modelArrivals(a, high) {
				if took, pass := Took(a, u, high), Pass(a, u, high); took != modelTook(a, u, high) || pass != want {
					t.Fatalf("%v at %d, %v: %d, %d, not %d, %d", a, u, high, took, pass, modelTook(a, u, high), want)
				}
			}
		}
	}
}

// P10.2

func TestLastExamples(t *testing.T) {
	// One arrives at the beginning of the hour 4 alone, or ten hours after one has entered.
	four := api.Arc{Low: but(600, 4, 0), High: but(600, 4, 599)}
	for _, c := range []struct {
		a    api.Arc
		by   int
		high bool
		want int
	}{
		{example(), 530, true, 480}, {example(), 529, true, 479}, {example(), 19, true, -1}, {example(), 20, true, 0}, {example(), 9, false, -1}, {example(), 10, false, 0}, {example(), 530, false, 520},
		{example(), 559, true, 509}, {example(), 560, true, 540}, {example(), 499, true, 479}, {example(), 500, true, 479},
		{example(), lastTime + 19, true, lastTime - 1}, {example(), lastTime + 20, true, lastTime}, {example(), lastTime + 21, true, lastTime}, {example(), lastTime, true, lastTime - 20}, {example(), lastTime + 9, false, lastTime - 1},
		{four, 239, false, -1}, {four, 240, false, 240}, {four, 299, false, 299}, {four, 300, false, 299}, {four, 899, false, 299}, {four, 900, false, 300},
		{four, 599, true, -1}, {four, 600, true, 0}, {four, 838, true, 238}, {four, 839, true, 240}, {four, 898, true, 299}, {four, 899, true, 299}, {four, 900, true, 300},
		{four, lastTime, false, lastTime}, {four, lastTime - 17, false, lastTime - 617}, {four, lastTime + 598, true, lastTime - 1}, {four, lastTime + 599, true, lastTime},
	} {
		if got := Last(c.a, c.by, c.high); got != c.want {
			t.Errorf("Last of %v by %d, %v is %d, not %d", c.a, c.by, c.high, got, c.want)
		}
	}
}

// by can be any number.
func TestLastOfAnyNumber(t *testing.T) {
	for _, a := range someArcs(104) {
		for _, high := range both {
			for _, by := range []int{-1, -2, -60, -600, -601, -1440, -1 << 31, -1 << 32, 600 - 1<<32, math.MinInt, math.MinInt + 1, math.MinInt + 599, math.MinInt + 600, math.MinInt + 601} {
				if got := Last(a, by, high); got != -1 {
					t.Errorf("Last of %v by %d, %v is %d, not -1", a, by, high, got)
				}
			}
			for _, by := range []int{lastTime + 600, lastTime + 601, lastTime + 1440, 2 * lastTime, 1<<31 - 1, 1 << 31, 1 << 32, 1<<32 + 20, math.MaxInt - 601, math.MaxInt - 600, math.MaxInt - 1, math.MaxInt} {
				if got := Last(a, by, high); got != lastTime {
					t.Errorf("Last of %v by %d, %v is %d, not %d", a, by, high, got, lastTime)
				}
			}
		}
	}
}

func TestLastRefuses(t *testing.T) {
	for _, a := range spoiled() {
		for _, high := range both {
			for _, by := range append(notTimes, 0, 19, 20, 50, 480, 530, 600, 1440, 500000, lastTime) {
				if got := Last(a, by, high); got != -1 {
					t.Errorf("Last of %v by %d is %d", a, by, got)
				}
			}
		}
	}
}

func TestLastIsTheModel(t *testing.T) {
	const wide = 700
	for _, high := range both {
		for i, a := range someArcs(105) {
			lasts := modelLasts(modelArrivals(a, high), wide)
			check := func(by int) {
				if got := Last(a, by, high); got != lasts[by+wide] {
					t.Fatalf("Last of %v by %d, %v is %d, not %d", a, by, high, got, lasts[by+wide])
				}
			}
			ends(wide, check)
			if i%20 == 0 {
				for by := -wide; by <= lastTime+wide; by++ {
					check(by)
				}
			}
		}
	}
}

// P10.3

// roomy returns an arc whose lists lie in longer ones, and these longer ones.
func roomy(a api.Arc) (api.Arc, []int, []int) {
	low := slices.Concat([]int{-7}, a.Low, []int{-7, -7})
	high := slices.Concat([]int{-8, -8}, a.High, []int{-8})
	a.Low, a.High = low[1:25], high[2:26]
	return a, low, high
}

func TestArgumentsStay(t *testing.T) {
	for _, plain := range append(someArcs(106), spoiled()...) {
		if len(plain.Low) != 24 || len(plain.High) != 24 {
			continue
		}
		a, low, high := roomy(plain)
		lowBefore, highBefore := slices.Clone(low), slices.Clone(high)
		for _, u := range []int{-1, 0, 479, 480, 535, 1439, lastTime, lastTime + 600, math.MaxInt} {
			for _, bound := range both {
				got := []int{Took(a, u, bound), Pass(a, u, bound), Last(a, u, bound)}
				want := []int{Took(plain, u, bound), Pass(plain, u, bound), Last(plain, u, bound)}
				if !slices.Equal(got, want) || Right(a) != Right(plain) {
					t.Errorf("%v at %d: %v, not %v", plain, u, got, want)
				}
			}
		}
		if !slices.Equal(low, lowBefore) || !slices.Equal(high, highBefore) {
			t.Errorf("%v was changed", plain)
		}
	}
}

// answers returns what all functions say of an arc, at some times.
func answers(a api.Arc) []int {
	var out []int
	if Right(a) {
		out = append(out, 1)
	}
	for u := -50; u < 3000; u += 7 {
		for _, high := range both {
			out = append(out, Took(a, u, high), Pass(a, u, high), Last(a, u, high))
		}
	}
	return out
}

// Neither earlier calls nor those of other goroutines make a difference; nor do the ends of an arc.
func TestPure(t *testing.T) {
	arcs := someArcs(107)
	want := make([][]int, len(arcs))
	for i, a := range arcs {
		want[i] = answers(a)
	}
	var all sync.WaitGroup
	for range 4 {
		all.Go(func() {
			for i := len(arcs) - 1; i >= 0; i-- {
				a := arcs[i]
				a.From, a.To = a.To, 9
				if !slices.Equal(answers(a), want[i]) {
					t.Errorf("%v answers otherwise", a)
				}
			}
		})
	}
	all.Wait()
}

// P10.4

func TestLaterIsNotEarlier(t *testing.T) {
	for _, a := range someArcs(108) {
		for _, high := range both {
			before := -1
			for u := range 3 * 1440 {
				now := Pass(a, u, high)
				if now < before {
					t.Errorf("%v, %v: from %d on one arrives at %d, and a minute before at %d", a, high, u, now, before)
				}
				if now < u || now > u+Took(a, u, high) {
					t.Errorf("%v, %v: from %d on one arrives at %d, and without waiting at %d", a, high, u, now, u+Took(a, u, high))
				}
				before = now
			}
		}
	}
}

// entered returns a time from u on at which one can enter to arrive just at some time, or -1.
func entered(a api.Arc, u, arrival int, high bool) int {
	for ; u <= min(arrival, lastTime); u++ {
		if u+Took(a, u, high) == arrival {
			return u
		}
	}
	return -1
}

func TestThereIsATimeToEnter(t *testing.T) {
	r := rand.New(rand.NewSource(109))
	for _, a := range someArcs(110) {
		for _, high := range both {
			for range 100 {
				for _, u := range []int{r.Intn(2000), lastTime - r.Intn(2000), r.Intn(lastTime)} {
					if arrival := Pass(a, u, high); entered(a, u, arrival, high) == -1 {
						t.Errorf("%v, %v: nobody who enters from %d on arrives at %d", a, high, u, arrival)
					}
				}
			}
		}
	}
}

// P10.5

func TestInTimeExactlyUntilLast(t *testing.T) {
	r := rand.New(rand.NewSource(111))
	for _, a := range someArcs(112) {
		for _, high := range both {
			check := func(u, by int) {
				if inTime, until := Pass(a, u, high) <= by, Last(a, by, high); inTime != (u <= until) {
					t.Errorf("%v, %v: from %d on one arrives at %d, and Last by %d is %d", a, high, u, Pass(a, u, high), by, until)
				}
			}
			for range 300 {
				for _, u := range []int{r.Intn(2000), lastTime - r.Intn(2000), r.Intn(lastTime), 0, lastTime} {
					check(u, u+r.Intn(700)-50)
					check(u, Pass(a, u, high))
					check(u, Pass(a, u, high)-1)
					check(u, r.Intn(lastTime))
					check(u, int(r.Uint64()))
				}
			}
		}
	}
}

// Who begins at Last is in time, and who begins a minute later is not, if there is such a time.
func TestLastIsTheGreatest(t *testing.T) {
	for _, a := range someArcs(113) {
		for _, high := range both {
			ends(700, func(by int) {
				u := Last(a, by, high)
				if u < -1 || u > lastTime || u >= 0 && Pass(a, u, high) > by || u < lastTime && Pass(a, u+1, high) <= by {
					t.Errorf("Last of %v by %d, %v is %d", a, by, high, u)
				}
			})
		}
	}
}

// P10.6

func TestHighIsNotEarlierThanLow(t *testing.T) {
	for _, a := range someArcs(114) {
		ends(0, func(u int) {
			if low, high := Pass(a, u, false), Pass(a, u, true); low > high {
				t.Errorf("%v: from %d on one arrives at %d with High, and at %d with Low", a, u, high, low)
			}
			if low, high := Last(a, u, false), Last(a, u, true); low < high {
				t.Errorf("%v: Last by %d is %d with High, and %d with Low", a, u, high, low)
			}
		})
	}
}

// smaller returns a valid arc whose numbers are at most those of another one.
func smaller(r *rand.Rand, a api.Arc) api.Arc {
	a.Low, a.High = slices.Clone(a.Low), slices.Clone(a.High)
	for hour := range 24 {
		if r.Intn(2) == 0 {
			a.High[hour] = r.Intn(a.High[hour] + 1)
		}
		a.Low[hour] = min(r.Intn(a.Low[hour]+1), a.High[hour])
	}
	return a
}

func TestSmallerNumbersAreNotLater(t *testing.T) {
	r := rand.New(rand.NewSource(115))
	for _, a := range someArcs(116) {
		b := smaller(r, a)
		if !Right(b) {
			t.Fatal(b)
		}
		for _, high := range both {
			ends(0, func(u int) {
				if Pass(b, u, high) > Pass(a, u, high) {
					t.Errorf("from %d on one arrives at %d with %v, and at %d with %v", u, Pass(a, u, high), a, Pass(b, u, high), b)
				}
				if Last(b, u, high) < Last(a, u, high) {
					t.Errorf("Last by %d is %d with %v, and %d with %v", u, Last(a, u, high), a, Last(b, u, high), b)
				}
			})
		}
	}
}

// P10.7

// atBeginnings returns the least sum for a time and for the beginnings of the next so many hours.
func atBeginnings(a api.Arc, t int, high bool, next int) int {
	least := t + modelTook(a, t, high)
	for k := 1; k <= next; k++ {
		if u := (t/60 + k) * 60; u <= lastTime {
			least = min(least, u+modelTook(a, u, high))
		}
	}
	return least
}

func TestBeginningsOfTenHours(t *testing.T) {
	for _, a := range someArcs(117) {
		for _, high := range both {
			ends(0, func(u int) {
				if u < 0 || u > lastTime {
					return
				}
				if got, want := Pass(a, u, high), atBeginnings(a, u, high, 10); got != want {
					t.Fatalf("%v, %v: from %d on one arrives at %d, not %d", a, high, u, got, want)
				}
			})
		}
	}
}

// Each of the ten hours can be the best one, from each minute of an hour on from which waiting for it takes less than 600 minutes.
func TestEachOfTenHours(t *testing.T) {
	for hour := range 24 {
		for k := 1; k <= 10; k++ {
			best := (hour + k) % 24
			a := api.Arc{Low: but(600, best, 0), High: but(600, best, 1)}
			for minute := range 60 {
				start := (24*3+hour)*60 + minute
				begin := (24*3 + hour + k) * 60
				if got := Pass(a, start, false); got != begin {
					t.Errorf("hour %d, %d: from %d on one arrives at %d, not %d", hour, k, start, got, begin)
				}
				if got := Pass(a, start, true); got != min(begin+1, start+600) {
					t.Errorf("hour %d, %d: from %d on one arrives at %d, not %d", hour, k, start, got, min(begin+1, start+600))
				}
				if k == 10 && minute > 0 && atBeginnings(a, start, false, 9) <= begin {
					t.Errorf("the hour %d is not needed from %d on", best, start)
				}
			}
		}
	}
}

// Who waits and enters in the same hour arrives later by what one has waited.
func TestWaitingWithinAnHour(t *testing.T) {
	for _, a := range someArcs(118) {
		for _, high := range both {
			for hour := range 48 {
				for minute := 1; minute < 60; minute++ {
					first, later := hour*60, hour*60+minute
					if later+Took(a, later, high) != first+Took(a, first, high)+minute {
						t.Errorf("%v, %v: at %d and %d it takes %d and %d", a, high, first, later, Took(a, first, high), Took(a, later, high))
					}
				}
			}
		}
	}
}
