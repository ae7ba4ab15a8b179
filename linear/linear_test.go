package linear

import (
	"math"
	"math/big"
	"math/rand"
	"slices"
	"testing"

	"tonneau/api"
	"tonneau/frac"
)

// wrong returns fractions that are not right.
func wrong() []api.Frac {
	number := func(sign int, digits ...int) api.Big { return api.Big{Sign: sign, Digits: digits} }
	one := number(1, 1)
	return []api.Frac{
		{}, {P: one}, {Q: one, P: number(1)}, {P: number(1, 2), Q: number(1, 2)}, {P: number(0), Q: number(1, 2)}, {P: one, Q: number(-1, 1)},
		{P: number(1, 6), Q: number(1, 4)}, {P: number(1, 1, 0), Q: one}, {P: number(0, 1), Q: one}, {P: number(2, 1), Q: one}, {P: number(1, -1), Q: one},
		{P: number(1, 1048576), Q: one}, {P: number(1, math.MinInt), Q: one}, {P: number(1, slices.Repeat([]int{1}, 61)...), Q: one},
		{P: one, Q: number(1, slices.Repeat([]int{1}, 61)...)},
	}
}

// pair is rows, and the number of unknowns that they may have.
type pair struct {
	rows []api.Row
	n    int
}

// notSystems returns rows that are no system of n unknowns.
func notSystems() []pair {
	two := system("1 2 = 3; 4 5 = 6")
	list := []pair{
		{nil, -1}, {nil, 1}, {nil, math.MinInt}, {nil, math.MaxInt}, {two, 0}, {two, 1}, {two, 3}, {two, -2}, {two[:1], 1}, {two[:1], 2},
		{system("1 = 1; 1 = 1"), 1}, {system("1 2 3 = 4; 5 6 7 = 8"), 2}, {system("1 2 3 = 4; 5 6 7 = 8"), 3}, {system("1 2 = 3; 4 = 5"), 2},
		{system("1 = 2; 3 4 = 5"), 2}, {system("1 2 = 3; 4 5 6 = 7"), 2}, {make([]api.Row, 1), 1}, {make([]api.Row, 2), 2}, {make([]api.Row, 1), 0},
		{identity(41), 41}, {identity(42), 42}, {identity(41), 40}, {identity(40), 41}, {identity(40), 39}, {identity(40)[:39], 40},
	}
	for _, f := range wrong() {
		for i := range 3 {
			for j := range 4 {
				rows := identity(3)
				*at(rows, i, j) = f
				list = append(list, pair{rows, 3})
			}
		}
	}
	return list
}

// at returns an element of a row, or its Value, which comes after them.
func at(rows []api.Row, i, j int) *api.Frac {
	if j == len(rows[i].A) {
		return &rows[i].Value
	}
	return &rows[i].A[j]
}

// identity returns the system of n unknowns that are 0, 1, 2 and so on.
func identity(n int) []api.Row {
	rows := make([]api.Row, n)
	for i := range rows {
		rows[i].A = slices.Repeat([]api.Frac{of("0")}, n)
		rows[i].A[i] = of("1")
		rows[i].Value = ours(big.NewRat(int64(i), 1))
	}
	return rows
}

// expectNothing checks that all functions refuse what is no system.
func expectNothing(t *testing.T, rows []api.Row, n int, x []api.Frac) {
	t.Helper()
	if got, err := Solve(rows, n); len(got) > 0 || err != api.ErrArg {
		t.Errorf("Solve of no system of %d: %v, error %d", n, got, err)
	}
	if Check(rows, n, x) {
		t.Errorf("Check of no system of %d", n)
	}
	if got, ok := Kernel(rows, n); len(got) > 0 || ok {
		t.Errorf("Kernel of no system of %d: %v, %v", n, got, ok)
	}
	if got, err := Rank(rows, n); got != 0 || err != api.ErrArg {
		t.Errorf("Rank of no system of %d: %d, error %d", n, got, err)
	}
}

// outcome is what Solve, Kernel and Rank should return for a system; lists as texts.
type outcome struct {
	solution string
	err      api.Errno
	kernel   string
	ok       bool
	rank     int
	rankErr  api.Errno
}

// expect checks Solve, Kernel and Rank.
func expect(t *testing.T, rows []api.Row, want outcome) {
	t.Helper()
	n := len(rows)
	var got outcome
	x, err := Solve(rows, n)
	got.solution, got.err = texts(x), err
	x, got.ok = Kernel(rows, n)
	got.kernel = texts(x)
	got.rank, got.rankErr = Rank(rows, n)
	if got != want {
		t.Errorf("%s:\ngot  %v\nwant %v", written(rows), got, want)
	}
}

// wanted returns what the model says.
func wanted(rows []api.Row) outcome {
	var o outcome
	m := eliminated(rows, true)
	switch {
	case m.failed:
		o.err = api.ErrFull
	case len(m.free) > 0:
		o.err = api.ErrSingular
		o.kernel, o.ok = m.kernel(), true
	default:
		o.solution = m.values()
	}
	if m = eliminated(rows, false); m.failed {
		o.rankErr = api.ErrFull
	} else {
		o.rank = len(rows) - len(m.free)
	}
	return o
}

// values returns the text of the Values.
func (m *model) values() string {
	var l []api.Frac
	for _, row := range m.rows {
		l = append(l, ours(row[len(row)-1]))
	}
	return texts(l)
}

// kernel returns the text of the kernel.
func (m *model) kernel() string {
	c := m.free[0]
	x := slices.Repeat([]api.Frac{of("0")}, len(m.rows))
	for i := range c {
		x[i] = ours(new(big.Rat).Neg(m.rows[i][c]))
	}
	x[c] = of("1")
	return texts(x)
}

// P6.1

func TestRight(t *testing.T) {
	for _, c := range notSystems() {
		if Right(c.rows, c.n) {
			t.Errorf("%s is a system of %d", written(c.rows), c.n)
		}
		expectNothing(t, c.rows, c.n, make([]api.Frac, max(0, min(c.n, 50))))
		expectNothing(t, c.rows, c.n, nil)
	}
	for n := range 41 {
		if !Right(identity(n), n) {
			t.Errorf("the identity of %d is no system", n)
		}
	}
	if !Right(nil, 0) || !Right([]api.Row{}, 0) || !Right(system("0 0 = 0; 0 0 = 1"), 2) || !Right(system("-1/2 "+greatest()+" = -7; 1/"+greatest()+" 0 = 1/3"), 2) {
		t.Error("a system is none")
	}
}

// P6.2, P6.4 and P6.5

func TestExamples(t *testing.T) {
	for s, want := range map[string]outcome{
		"2 = 1":                           {solution: "1/2", rank: 1},
		"1 1 = 3; 1 -1 = 1":               {solution: "2 1", rank: 2},
		"1 2 = 1; 2 4 = 5":                {err: api.ErrSingular, kernel: "-2 1", ok: true, rank: 1},
		"":                                {},
		"0 = 0":                           {err: api.ErrSingular, kernel: "1", ok: true},
		"0 = 1":                           {err: api.ErrSingular, kernel: "1", ok: true},
		"-2/3 = 0":                        {solution: "0", rank: 1},
		"0 1 = 5; 1 0 = 7":                {solution: "7 5", rank: 2},
		"1 2 = 1; 2 4 = 2":                {err: api.ErrSingular, kernel: "-2 1", ok: true, rank: 1},
		"0 1 = 1; 0 2 = 1":                {err: api.ErrSingular, kernel: "1 0", ok: true, rank: 1},
		"0 0 = 1; 0 0 = 2":                {err: api.ErrSingular, kernel: "1 0", ok: true},
		"1/2 1/3 = 1; 1 1 = 0":            {solution: "6 -6", rank: 2},
		"0 1 1 = 2; 1 0 1 = 3; 1 1 0 = 4": {solution: "5/2 3/2 1/2", rank: 3},
		"1 2 3 = 1; 4 5 6 = 2; 7 8 9 = 3": {err: api.ErrSingular, kernel: "1 -2 1", ok: true, rank: 2},
		"1 2 3 = 1; 2 4 7 = 2; 3 6 1 = 3": {err: api.ErrSingular, kernel: "-2 1 0", ok: true, rank: 2},
		"1 2 3 = 1; 2 4 6 = 2; 3 6 9 = 3": {err: api.ErrSingular, kernel: "-2 1 0", ok: true, rank: 1},
		"0 0 1 = 1; 0 0 1 = 2; 0 1 0 = 3": {err: api.ErrSingular, kernel: "1 0 0", ok: true, rank: 2},
		"2 3 5 7 = 0; 0 0 0 0 = 0; 0 0 1 0 = 0; 0 0 0 0 = 0": {err: api.ErrSingular, kernel: "-3/2 1 0 0", ok: true, rank: 2},
		"1 0 2 0 = 0; 0 1 3 0 = 0; 0 0 0 1 = 0; 0 0 0 2 = 0": {err: api.ErrSingular, kernel: "-2 -3 1 0", ok: true, rank: 3},
	} {
		expect(t, system(s), want)
	}
}

// TestFull has one calculation at a time that just has room, or just has not.
func TestFull(t *testing.T) {
	two := func(n int64) string { return power(2, n) }
	three := power(3, 400) // 634 bits
	failing := outcome{err: api.ErrFull, rankErr: api.ErrFull}
	singular := outcome{err: api.ErrSingular, kernel: "1 0", ok: true, rankErr: api.ErrFull}
	for _, c := range []struct {
		rows string
		want outcome
	}{
		// An element divided by itself.
		{two(566) + "/" + three + " = 0", outcome{solution: "0", rank: 1}},
		{two(567) + "/" + three + " = 0", failing},
		{"-" + three + "/" + two(567) + " = 0", failing},
		{"0 " + two(567) + "/" + three + " = 0; 0 0 = 0", singular},
		{"0 0 = 0; 0 " + three + "/" + two(567) + " = 0", singular},
		{two(567) + "/" + three + " 0 = 0; 1 0 = 0", failing},
		{"1 0 = 0; " + two(567) + "/" + three + " 0 = 0", failing},
		// Another element, or the Value, divided by the pivot.
		{"1/2 " + two(1198) + " = 0; 0 1 = 0", outcome{solution: "0 0", rank: 2}},
		{"1/2 " + two(1199) + " = 0; 0 1 = 0", failing},
		{"1/2 " + two(1199) + " = 0; 0 0 = 0", failing},
		{"2 = " + two(1199), outcome{solution: two(1198), rank: 1}},
		{"1/2 = " + two(1198), outcome{solution: two(1199), rank: 1}},
		{"1/2 = " + two(1199), failing},
		{"2 = 1/" + two(1199), failing},
		{"2/3 = 0", outcome{solution: "0", rank: 1}},
		{"1/2 0 = " + two(1199) + "; 0 0 = 0", failing},
		{"0 1/2 = " + two(1199) + "; 0 0 = 0", singular},
		{"1 2 = 1; 1/2 1 = " + two(1199), failing},
		{"1 2 = 1; 2 4 = " + two(1199), outcome{err: api.ErrSingular, kernel: "-2 1", ok: true, rank: 1}},
		// The product of what a row had and of the pivot's row.
		{"1 " + two(600) + " = 0; " + two(599) + " 1 = 0", outcome{solution: "0 0", rank: 2}},
		{"1 " + two(600) + " = 0; " + two(600) + " 1 = 0", failing},
		{"1 0 = " + two(600) + "; " + two(600) + " 1 = 0", failing},
		{"1 0 = " + two(600) + "; " + two(599) + " 1 = 0", outcome{solution: two(600) + " -" + two(1199), rank: 2}},
		// The difference, also of an element and itself.
		{"1 0 = 0; " + two(724) + "/" + power(3, 300) + " 1 = 0", outcome{solution: "0 0", rank: 2}},
		{"1 0 = 0; " + two(725) + "/" + power(3, 300) + " 1 = 0", failing},
		{"1 0 = 0; 1/" + two(600) + " 1 = 0", failing},
		{"1 0 = 0; 1/" + two(599) + " 1 = 0", outcome{solution: "0 0", rank: 2}},
		{"1 0 = 1; 1 1 = " + greatest(), outcome{solution: "1 " + minusOne(greatest()), rank: 2}},
		{"1 0 = -1; 1 1 = " + greatest(), failing},
		{"1 0 = 1; 1 1 = -" + greatest(), failing},
		{"1 1 = 0; 1 1 = -" + greatest(), outcome{err: api.ErrSingular, kernel: "-1 1", ok: true, rank: 1}},
		// A row above the pivot.
		{"1 " + two(567) + "/" + three + " = 0; 0 1 = 0", failing},
		{"1 " + two(600) + " = 0; 0 1 = " + two(600), failing},
		{"1 " + two(600) + " = 0; 0 1 = " + two(599), outcome{solution: "-" + two(1199) + " " + two(599), rank: 2}},
		// A free column before, and one after, a calculation without room.
		{"0 1 = 0; 0 " + two(567) + "/" + three + " = 0", singular},
		{"1 2 = 0; 0 0 = " + greatest(), outcome{err: api.ErrSingular, kernel: "-2 1", ok: true, rank: 1}},
		{"1/2 2 = " + greatest() + "; 0 0 = 0", failing},
		{"0 0 = 0; 0 1/2 = " + greatest(), singular},
		// Rows that exchange their places, so that the second one comes next.
		{"0 1 0 = 0; 0 1/2 1 = " + two(1199) + "; 1 0 0 = 0", failing},
		{"0 1/2 1 = " + two(1199) + "; 0 1 0 = 0; 1 0 0 = 0", outcome{solution: "0 0 " + two(1199), rank: 3}},
	} {
		expect(t, system(c.rows), c.want)
		if got := wanted(system(c.rows)); got != c.want {
			t.Errorf("the model of %s: %v, not %v", c.rows, got, c.want)
		}
	}
}

// minusOne returns the text of an integer less 1.
func minusOne(s string) string {
	return new(big.Rat).Sub(pure(s), big.NewRat(1, 1)).Num().String()
}

// TestAgainstTheModel compares Solve, Kernel, Rank and Check with the model, for systems that fail at all places.
func TestAgainstTheModel(t *testing.T) {
	r := rand.New(rand.NewSource(1))
	seen := map[string]int{}
	for _, bits := range []int{3, 40, 140, 200, 300, 400, 600, 1199} {
		for range 300 {
			rows := random(r, r.Intn(6), bits)
			want := wanted(rows)
			expect(t, rows, want)
			seen[map[api.Errno]string{api.OK: "solved", api.ErrFull: "full", api.ErrSingular: "singular"}[want.err]]++
			if want.err == api.ErrSingular && want.rankErr == api.ErrFull {
				seen["full later"]++
			}
			x, _ := Solve(rows, len(rows))
			if Check(rows, len(rows), x) {
				seen["checked"]++
			}
			for range len(rows) - len(x) {
				x = append(x, element(r, bits))
			}
			if Check(rows, len(rows), x) != checks(rows, x) {
				t.Errorf("Check of %s for %s", texts(x), written(rows))
			}
		}
	}
	for name, least := range map[string]int{"solved": 600, "full": 400, "singular": 300, "full later": 50, "checked": 600} {
		if seen[name] < least {
			t.Error("too few cases:", seen)
		}
	}
}

// TestGreatest solves systems with as many unknowns as there may be.
func TestGreatest(t *testing.T) {
	rows := identity(40)
	slices.Reverse(rows)
	x, err := Solve(rows, 40)
	for i := range x {
		if texts(x[i:i+1]) != big.NewInt(int64(i)).String() {
			t.Errorf("element %d: %s", i, texts(x[i:i+1]))
		}
	}
	rank, rankErr := Rank(rows, 40)
	if len(x) != 40 || err != api.OK || !Check(rows, 40, x) || rank != 40 || rankErr != api.OK {
		t.Errorf("%d elements, error %d, rank %d, error %d", len(x), err, rank, rankErr)
	}
	r := rand.New(rand.NewSource(2))
	for i := range rows {
		for j := range rows {
			rows[i].A[j] = ours(big.NewRat(int64(r.Intn(5)-2), 1))
		}
	}
	if x, err = Solve(rows, 40); err != api.OK || !isSolution(rows, x) || !Check(rows, 40, x) {
		t.Errorf("a system of 40 unknowns: error %d", err)
	}
	rows[39] = deep(rows[7:8])[0]
	k, ok := Kernel(rows, 40)
	if rank, err := Rank(rows, 40); rank != 39 || err != api.OK || !ok || !isKernel(rows, k) {
		t.Errorf("a system of 39 different rows: rank %d, error %d, %v", rank, err, ok)
	}
}

// P6.3

func TestCheck(t *testing.T) {
	h := greatest()
	for _, c := range []struct {
		rows, x string
		want    bool
	}{
		{"", "", true},
		{"", "0", false},
		{"2 = 1", "1/2", true},
		{"2 = 1", "-1/2", false},
		{"2 = 1", "", false},
		{"2 = 1", "1/2 0", false},
		{"1 1 = 3; 1 -1 = 1", "2 1", true},
		{"1 1 = 3; 1 -1 = 1", "1 2", false},
		{"1 1 = 3; 1 -1 = 1", "2", false},
		{"1 1 = 3; 1 -1 = 1", "2 1 0", false},
		{"1 1 = 3; 1 -1 = 3", "3 0", true},
		{"1 1 = 3; 1 -1 = 2", "3 0", false},
		{"1 1 = 2; 1 -1 = 3", "3 0", false},
		{"0 = 0", "5/7", true},
		{"0 = 1", "5/7", false},
		{"1 2 = 5; 2 4 = 10", "1 2", true},
		{"1 2 = 5; 2 4 = 10", "5 0", true},
		// Products and sums without room, though the Value has some.
		{h + " = " + h, "1", true},
		{"2 = " + h, h + "/2", false},
		{h + "/2 = " + h, "2", false},
		{"1 1 0 = " + h + "; 0 0 0 = 0; 0 0 0 = 0", h + " 0 0", true},
		{h + " -" + h + " " + h + " = " + h + "; 0 0 0 = 0; 0 0 0 = 0", "1 1 1", true},
		{h + " " + h + " -" + h + " = " + h + "; 0 0 0 = 0; 0 0 0 = 0", "1 1 1", false},
		{"-" + h + " " + h + " " + h + " = " + h + "; 0 0 0 = 0; 0 0 0 = 0", "1 1 1", true},
		{"0 0 0 = 0; 0 0 0 = 0; " + h + " " + h + " -" + h + " = " + h, "1 1 1", false},
		{h + " 1 -1 = " + h + "; 0 0 0 = 0; 0 0 0 = 0", "1 0 0", true},
		{h + " 1 -1 = " + h + "; 0 0 0 = 0; 0 0 0 = 0", "1 1 1", false},
		{h + " -1 1 = " + h + "; 0 0 0 = 0; 0 0 0 = 0", "1 1 1", true},
		{h + " = 0", "0", true},
		{"0 = 0", "1/" + h, true},
	} {
		rows, x := system(c.rows), list(c.x)
		if got := Check(rows, len(rows), x); got != c.want {
			t.Errorf("Check of %s for %s: %v", c.x, c.rows, got)
		}
	}
}

func TestCheckOfWhatIsNotRight(t *testing.T) {
	// Each of them would be ignored, as it is multiplied by 0.
	for _, f := range wrong() {
		for i := range 3 {
			x := list("0 0 0")
			x[i] = f
			if Check(system("0 0 0 = 0; 0 0 0 = 0; 0 0 0 = 0"), 3, x) {
				t.Errorf("Check of %v", x)
			}
		}
		if Check(nil, 0, []api.Frac{f}) {
			t.Errorf("Check of %v for nothing", f)
		}
	}
	x := list("1/2")
	for _, n := range []int{-1, 0, 2, 41} {
		if Check(system("2 = 1"), n, x) {
			t.Errorf("Check of one row for %d", n)
		}
	}
}

// P6.6

// parts returns all Digits of fractions.
func parts(l []api.Frac) [][]int {
	var p [][]int
	for _, f := range l {
		p = append(p, f.P.Digits, f.Q.Digits)
	}
	return p
}

// spoil changes all digits, also those behind the end of a slice.
func spoil(l []api.Frac) {
	for _, digits := range parts(l[:cap(l)]) {
		for i := range digits[:cap(digits)] {
			digits[:cap(digits)][i] = 7
		}
	}
	for i := range l[:cap(l)] {
		l[:cap(l)][i].P.Sign = 5
	}
}

// sameRows reports whether two systems are the same, digit by digit.
func sameRows(a, b []api.Row) bool {
	return slices.EqualFunc(a, b, func(x, y api.Row) bool { return slices.EqualFunc(x.A, y.A, same) && same(x.Value, y.Value) })
}

func TestArgumentsStay(t *testing.T) {
	r := rand.New(rand.NewSource(3))
	for range 600 {
		rows := random(r, r.Intn(5), 60)
		before := deep(rows)
		n := len(rows)
		first, err := Solve(rows, n)
		kernel, ok := Kernel(rows, n)
		Rank(rows, n)
		Check(rows, n, first)
		if !sameRows(rows, before) {
			t.Fatalf("%s has become %s", written(before), written(rows))
		}
		want := texts(append(slices.Clone(first), kernel...))
		for _, l := range [][]api.Frac{first, kernel} {
			for i := range l {
				rest := texts(slices.Delete(slices.Clone(l), i, i+1))
				spoil(l[i : i+1 : i+1])
				if rest != texts(slices.Delete(slices.Clone(l), i, i+1)) {
					t.Fatalf("elements of a result for %s share memory", written(before))
				}
			}
			spoil(l)
		}
		if !sameRows(rows, before) {
			t.Fatalf("a result for %s shares memory with it", written(before))
		}
		again, againErr := Solve(rows, n)
		kernelAgain, okAgain := Kernel(rows, n)
		if texts(append(again, kernelAgain...)) != want || err != againErr || ok != okAgain {
			t.Fatalf("another result for %s", written(before))
		}
	}
}

// TestSharedArguments has rows that are parts of one slice, or the same slice.
func TestSharedArguments(t *testing.T) {
	all := list("1 2 3 4")
	rows := []api.Row{{A: all[0:2], Value: all[0]}, {A: all[2:4], Value: all[1]}}
	expect(t, rows, outcome{solution: "0 1/2", rank: 2})
	rows[1].A = all[1:3]
	expect(t, rows, outcome{solution: "1 0", rank: 2})
	rows[1].A = all[0:2]
	expect(t, rows, outcome{err: api.ErrSingular, kernel: "-2 1", ok: true, rank: 1})
	if x := all[:2]; !Check([]api.Row{{A: x, Value: of("5")}, {A: x, Value: of("5")}}, 2, x) {
		t.Error("Check of a row's own elements")
	}
	expectList(t, "the elements", all, "1 2 3 4")
}

// P6.7

// isKernel reports whether a list is not zero, and its products with all rows are 0.
func isKernel(rows []api.Row, k []api.Frac) bool {
	if len(k) != len(rows) || !slices.ContainsFunc(k, func(f api.Frac) bool { return f.P.Sign != 0 }) {
		return false
	}
	return !slices.ContainsFunc(rows, func(row api.Row) bool { return dot(row.A, k).Sign() != 0 })
}

// plus returns the sum of a list and of another one a number of times.
func plus(x, y []api.Frac, factor int64) []api.Frac {
	var l []api.Frac
	for i := range x {
		l = append(l, ours(new(big.Rat).Add(theirs(x[i]), new(big.Rat).Mul(theirs(y[i]), big.NewRat(factor, 3)))))
	}
	return l
}

// determinant returns the determinant of a system, by the rows from r on and the columns that are left.
func determinant(rows []api.Row, columns []int) *big.Rat {
	if len(columns) == 0 {
		return big.NewRat(1, 1)
	}
	total := new(big.Rat)
	for i, c := range columns {
		part := determinant(rows[1:], slices.Delete(slices.Clone(columns), i, i+1))
		part.Mul(part, theirs(rows[0].A[c]))
		if i%2 == 1 {
			part.Neg(part)
		}
		total.Add(total, part)
	}
	return total
}

// hasOneSolution reports whether a system has exactly one solution, as its determinant says.
func hasOneSolution(rows []api.Row) bool {
	var columns []int
	for c := range rows {
		columns = append(columns, c)
	}
	return determinant(rows, columns).Sign() != 0
}

func TestEitherSolutionOrKernel(t *testing.T) {
	r := rand.New(rand.NewSource(4))
	counts := map[bool]int{}
	for range 1500 {
		rows := random(r, r.Intn(6), 2)
		n := len(rows)
		one := hasOneSolution(rows)
		counts[one]++
		x, err := Solve(rows, n)
		k, ok := Kernel(rows, n)
		if one && (err != api.OK || ok || !isSolution(rows, x) || len(x) != n || !Check(rows, n, x)) {
			t.Fatalf("one solution of %s: %s, error %d, %v", written(rows), texts(x), err, ok)
		}
		if !one && (err != api.ErrSingular || !ok || !isKernel(rows, k)) {
			t.Fatalf("not one solution of %s: error %d, %s, %v", written(rows), err, texts(k), ok)
		}
		expectOthers(t, r, rows, k)
	}
	if counts[true] < 400 || counts[false] < 400 {
		t.Error("too few cases:", counts)
	}
}

// expectOthers checks that Check refuses other lists than the solution, where there is one, and accepts as many as
// the kernel gives, where there are many.
func expectOthers(t *testing.T, r *rand.Rand, rows []api.Row, k []api.Frac) {
	t.Helper()
	n := len(rows)
	x := make([]api.Frac, n)
	for i := range x {
		x[i] = element(r, 3)
	}
	rows = deep(rows)
	for i := range rows {
		rows[i].Value = ours(dot(rows[i].A, x))
	}
	if !Check(rows, n, x) {
		t.Fatalf("Check of %s for %s", texts(x), written(rows))
	}
	for i := range n {
		unit := slices.Repeat([]api.Frac{of("0")}, n)
		unit[i] = of("1")
		if other := plus(x, unit, 1); Check(rows, n, other) != isSolution(rows, other) {
			t.Fatalf("Check of %s for %s", texts(other), written(rows))
		}
	}
	if len(k) > 0 && (!Check(rows, n, plus(x, k, 1)) || !Check(rows, n, plus(x, k, -5))) {
		t.Fatalf("%s has not many solutions", written(rows))
	}
}

// P6.8

// scaled returns a row multiplied by a number, and added to another one.
func scaled(row, to api.Row, factor int64) api.Row {
	var l []api.Frac
	f := big.NewRat(factor, 2)
	for j, a := range append(slices.Clone(row.A), row.Value) {
		x := theirs(append(slices.Clone(to.A), to.Value)[j])
		l = append(l, ours(x.Add(x, new(big.Rat).Mul(f, theirs(a)))))
	}
	return api.Row{A: l[:len(l)-1], Value: l[len(l)-1]}
}

func TestChangesOfRows(t *testing.T) {
	r := rand.New(rand.NewSource(5))
	solved := 0
	for range 800 {
		n := 1 + r.Intn(5)
		rows := random(r, n, 12)
		x, err := Solve(rows, n)
		if err != api.OK {
			continue
		}
		solved++
		i, j := r.Intn(n), r.Intn(n)
		zero := slices.Repeat([]api.Frac{of("0")}, n)
		changed := deep(rows)
		changed[i], changed[j] = changed[j], changed[i]
		changed[i] = scaled(changed[i], api.Row{A: zero, Value: of("0")}, 1+int64(r.Intn(9)))
		if i != j {
			changed[j] = scaled(changed[i], changed[j], int64(r.Intn(9)-4))
		}
		if got, err := Solve(changed, n); err != api.OK || texts(got) != texts(x) || !Check(changed, n, x) {
			t.Fatalf("%s: %s, and then error %d, %s", written(rows), texts(x), err, texts(got))
		}
		changed[i] = scaled(changed[i], api.Row{A: zero, Value: of("0")}, 0)
		if !Check(changed, n, x) {
			t.Fatalf("%s is no solution of %s", texts(x), written(changed))
		}
	}
	if solved < 300 {
		t.Error("only", solved, "systems had a solution")
	}
}

func TestSumOfValues(t *testing.T) {
	r := rand.New(rand.NewSource(6))
	solved := 0
	for range 800 {
		n := 1 + r.Intn(5)
		first := random(r, n, 12)
		second, both := deep(first), deep(first)
		for i := range n {
			second[i].Value = element(r, 12)
			both[i].Value, _ = frac.Add(first[i].Value, second[i].Value)
		}
		x, err1 := Solve(first, n)
		y, err2 := Solve(second, n)
		z, err3 := Solve(both, n)
		if err1 != err2 || err1 != err3 {
			t.Fatalf("%s: errors %d, %d, %d", written(first), err1, err2, err3)
		}
		if err1 != api.OK {
			continue
		}
		solved++
		expectList(t, "the solution of "+written(both), z, texts(plus(x, y, 3)))
	}
	if solved < 300 {
		t.Error("only", solved, "systems had a solution")
	}
}

// P6.9

// ofRank returns a system whose rows are sums of so many lists, none of which is one of the others.
func ofRank(r *rand.Rand, n, rank int) []api.Row {
	rows := make([]api.Row, n)
	for i := range rows {
		rows[i] = api.Row{A: slices.Repeat([]api.Frac{of("0")}, n), Value: element(r, 8)}
	}
	for i, c := range r.Perm(n)[:rank] {
		rows[i].A[c] = of("1")
	}
	r.Shuffle(n, func(i, j int) { rows[i], rows[j] = rows[j], rows[i] })
	for range 3 * n {
		from, to, factor := r.Intn(n), r.Intn(n), int64(r.Intn(7)-3)
		if from == to {
			continue
		}
		rows[to] = scaled(rows[from], rows[to], factor)
		for i := range rows {
			a := rows[i].A
			a[from] = ours(new(big.Rat).Add(theirs(a[from]), new(big.Rat).Mul(theirs(a[to]), big.NewRat(factor, 1))))
		}
	}
	return rows
}

func TestRank(t *testing.T) {
	r := rand.New(rand.NewSource(7))
	for n := 1; n <= 8; n++ {
		for rank := range n + 1 {
			for range 12 {
				rows := ofRank(r, n, rank)
				got, err := Rank(rows, n)
				if got != rank || err != api.OK {
					t.Fatalf("%s: %d, error %d, not %d", written(rows), got, err, rank)
				}
				x, err := Solve(rows, n)
				k, ok := Kernel(rows, n)
				if (err == api.OK) != (rank == n) || (err == api.ErrSingular) != (rank < n) || ok != (rank < n) {
					t.Fatalf("%s of rank %d: error %d, %v", written(rows), rank, err, ok)
				}
				if rank == n && !isSolution(rows, x) || rank < n && !isKernel(rows, k) {
					t.Fatalf("%s: %s; %s", written(rows), texts(x), texts(k))
				}
			}
		}
	}
}

// TestRankWithoutRoom has a rank that is not known, but no solution for certain.
func TestRankWithoutRoom(t *testing.T) {
	rows := system("0 1 = 0; 0 " + power(2, 700) + "/" + power(3, 400) + " = 0")
	if rank, err := Rank(rows, 2); rank != 0 || err != api.ErrFull {
		t.Errorf("rank %d, error %d", rank, err)
	}
}
