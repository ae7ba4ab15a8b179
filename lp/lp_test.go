package lp

import (
	"math"
	"math/big"
	"math/rand"
	"slices"
	"strings"
	"testing"

	"tonneau/api"
)

// wrong returns fractions that are not right.
func wrong() []api.Frac {
	number := func(sign int, digits ...int) api.Big { return api.Big{Sign: sign, Digits: digits} }
	one, long := number(1, 1), slices.Repeat([]int{1}, 61)
	return []api.Frac{
		{}, {P: one}, {Q: one, P: number(1)}, {P: number(1, 2), Q: number(1, 2)}, {P: number(0), Q: number(1, 2)}, {P: one, Q: number(-1, 1)},
		{P: number(1, 6), Q: number(1, 4)}, {P: number(1, 1, 0), Q: one}, {P: number(0, 1), Q: one}, {P: number(2, 1), Q: one}, {P: number(1, -1), Q: one},
		{P: number(1, 1048576), Q: one}, {P: number(1, math.MinInt), Q: one}, {P: number(1, long...), Q: one}, {P: one, Q: number(1, long...)},
	}
}

// sized returns the greatest sum of n columns of which each is at most its number, in m rows.
func sized(n, m int) api.Program {
	p := api.Program{Goal: ones(n)}
	for i := range m {
		row := api.Row{A: list(strings.Repeat("0 ", n)), Value: of("1000")}
		if i < n {
			row.A[i], row.Value = of("1"), ours(big.NewRat(int64(i), 1))
		}
		p.Rows = append(p.Rows, row)
	}
	return p
}

// ones returns n fractions that are 1.
func ones(n int) []api.Frac { return list(strings.Repeat("1 ", n)) }

// notPrograms returns programs that are not right.
func notPrograms() []api.Program {
	l := []api.Program{
		sized(21, 0), sized(21, 1), sized(21, 40), sized(22, 3), sized(60, 60), sized(0, 41), sized(1, 41), sized(20, 41), sized(3, 42),
		program("1: = 1"), program("1: 1 1 = 1"), program(": 1 = 1"), program("1 1: 1 = 1"), program("1 1: 1 1 1 = 1"), program("1 1: 1 1 = 1; 1 = 1"),
		program("1 1: 1 = 1; 1 1 = 1"), program("1 1: 1 = 1; 1 1 1 = 1"), program("1: 0 = 1; 0 0 = 1"), {Rows: make([]api.Row, 1)}, {Goal: make([]api.Frac, 1)},
		{Goal: ones(1), Rows: make([]api.Row, 1)},
	}
	for _, f := range wrong() {
		for i := range 11 {
			p := program("1 0 0: 1 0 0 = 0; 0 0 0 = 0")
			*at(p, i) = f
			l = append(l, p)
		}
		l = append(l, api.Program{Goal: []api.Frac{f}}, api.Program{Rows: []api.Row{{Value: f}}})
	}
	return l
}

// at returns one of the fractions of a program of three columns: of its goal, then of its rows and their Values.
func at(p api.Program, i int) *api.Frac {
	if i < 3 {
		return &p.Goal[i]
	}
	row, j := (i-3)/4, (i-3)%4
	if j == 3 {
		return &p.Rows[row].Value
	}
	return &p.Rows[row].A[j]
}

// solved returns what Solve returns, with texts.
func solved(p api.Program) outcome {
	x, y, e := Solve(p)
	return outcome{texts(x), texts(y), e}
}

// expect checks Solve.
func expect(t *testing.T, p api.Program, want outcome) {
	t.Helper()
	if got := solved(p); got != want {
		t.Errorf("%s:\ngot  %v\nwant %v", written(p), got, want)
	}
}

// P9.1

func TestRight(t *testing.T) {
	for i, p := range notPrograms() {
		if Right(p) {
			t.Errorf("program %d is right: %v", i, p)
		}
		expect(t, p, outcome{e: api.ErrArg})
		for e := range api.ErrEmpty + 1 {
			for _, x := range [][]api.Frac{nil, make([]api.Frac, len(p.Goal)), list(strings.Repeat("0 ", len(p.Goal))), ones(len(p.Goal))} {
				for _, y := range [][]api.Frac{nil, list(strings.Repeat("0 ", len(p.Rows))), ones(len(p.Rows))} {
					if Check(p, x, y, e) {
						t.Fatalf("Check of program %d with the error %d: %v", i, e, p)
					}
				}
			}
		}
	}
	for n := range 21 {
		for m := range 41 {
			if !Right(sized(n, m)) {
				t.Errorf("%d columns and %d rows are not right", n, m)
			}
		}
	}
	h := greatest(0)
	for _, p := range []api.Program{{}, {Goal: []api.Frac{}, Rows: []api.Row{}}, program("0: 0 = 0"), program("-1/2 " + h + ": -1/" + h + " 0 = -" + h + "/3")} {
		if !Right(p) {
			t.Errorf("%s is not right", written(p))
		}
	}
	if MaxColumns != 20 {
		t.Error("MaxColumns is", MaxColumns)
	}
}

// P9.2

func TestExamples(t *testing.T) {
	for s, want := range map[string]outcome{
		// Those of the chapter.
		"1 1: 1 2 = 4; 3 1 = 6": {"8/5 6/5", "2/5 1/5", api.OK},
		"1: -1 = -3; 1 = 2":     {"", "1 1", api.ErrNone},
		"1 1: 1 -1 = 1":         {"1 1", "", api.ErrRange},
		": = -1":                {"", "1", api.ErrNone},
		// No columns, or no rows.
		":":                {"", "", api.OK},
		": = 0":            {"", "0", api.OK},
		": = 5; = 0":       {"", "0 0", api.OK},
		": = 5; = -2; = 0": {"", "0 1 0", api.ErrNone},
		": = -5; = -2":     {"", "1 0", api.ErrNone},
		"1:":               {"1", "", api.ErrRange},
		"0:":               {"0", "", api.OK},
		"-1:":              {"0", "", api.OK},
		"-1 0 1/7 1:":      {"0 0 1 0", "", api.ErrRange},
		// The least variable goes first, and is exchanged with the least one.
		"1: 1 = 2; 1 = 2":             {"2", "1 0", api.OK},
		"1: 2 = 4; 1 = 1":             {"1", "0 1", api.OK},
		"0 0: -1 -1 = -1":             {"1 0", "0", api.OK},
		"0 -1: -1 -1 = -1; -1 0 = -2": {"2 0", "0 0", api.OK},
		// One that contradicts itself, and has a column without an end.
		"1: 0 = -1":                {"", "1", api.ErrNone},
		"1 1: -1 0 = 0; 1 0 = -2":  {"", "0 1", api.ErrNone},
		"1 -1: 0 1 = 1; 0 -1 = -2": {"", "1 1", api.ErrNone},
		// No end only from a further place on.
		"1 0: -1 -1 = -4; -1 1 = 2": {"1 0", "", api.ErrRange},
		"0 1: 0 -1 = -1; 1 0 = 1":   {"0 1", "", api.ErrRange},
		// No goal, or only a bad one.
		"0: -1 = -3":            {"3", "0", api.OK},
		"-2: -1 = -3; 1 = 5":    {"3", "2 0", api.OK},
		"-1/2 -1/3: -1 -1 = -1": {"0 1", "1/3", api.OK},
		// Simplex methods may go round in circles here (Beale; Marshall and Suurballe).
		"3/4 -20 1/2 -6: 1/4 -8 -1 9 = 0; 1/2 -12 -1/2 3 = 0; 0 0 1 0 = 1":                          {"1 0 1 0", "0 3/2 5/4", api.OK},
		"10 -57 -9 -24: 1/2 -11/2 -5/2 9 = 0; 1/2 -3/2 -1/2 1 = 0; 1 0 0 0 = 1":                     {"1 0 1 0", "0 18 1", api.OK},
		"2 3 -1 -12: -2 -9 1 9 = 0; 1/3 1 -1/3 -2 = 0":                                              {"1 0 1 0", "", api.ErrRange},
		"100 10 1: 1 0 0 = 1; 20 1 0 = 100; 200 20 1 = 10000":                                       {"0 0 10000", "0 0 1", api.OK},
		"1 1 1: 1 1 0 = 1; 0 1 1 = 1; 1 0 1 = 1":                                                    {"1/2 1/2 1/2", "1/2 1/2 1/2", api.OK},
		"1 1 1: 1 0 0 = 10; 0 1 0 = 10; 1 1 0 = 14; 0 0 1 = 10; 1 0 1 = 14; 0 1 1 = 14; 1 1 1 = 24": {"7 7 7", "0 0 1/2 0 1/2 1/2 0", api.OK},
	} {
		p := program(s)
		expect(t, p, want)
		if got := wanted(p); got != want {
			t.Errorf("the model of %s: %v, not %v", s, got, want)
		}
		if !Check(p, list(want.x), list(want.y), want.e) {
			t.Errorf("Check refuses what belongs to %s", s)
		}
	}
}

// TestFull has one calculation at a time that just has room, or just has not.
func TestFull(t *testing.T) {
	two := func(n int64) string { return power(2, n) }
	h, failing := greatest(0), outcome{e: api.ErrFull}
	for _, c := range []struct {
		program string
		want    outcome
	}{
		// v of the row, divided.
		{"1: 1/2 = " + two(1198), outcome{two(1199), "2", api.OK}},
		{"1: 1/2 = " + two(1199), failing},
		{"1: 2 = 1/" + two(1198), outcome{"1/" + two(1199), "1/2", api.OK}},
		{"1: 2 = 1/" + two(1199), failing},
		{"1: 2 = " + two(1199), outcome{two(1198), "1/2", api.OK}},
		{"0: -1/2 = -" + two(1198), outcome{two(1199), "0", api.OK}},
		{"0: -1/2 = -" + two(1199), failing},
		// Another element, divided.
		{"1 0: 1/2 " + two(1198) + " = 0", outcome{"0 0", "2", api.OK}},
		{"1 0: 1/2 " + two(1199) + " = 0", failing},
		{"0 1: " + two(1199) + " 1/2 = 0", failing},
		{"1 0: 1/2 -" + two(1199) + " = 0", failing},
		{"1 0: 2 1/" + two(1199) + " = 0", failing},
		{"1 0: 2 1/" + two(1198) + " = 0", outcome{"0 0", "1/2", api.OK}},
		// There is room for 1, divided.
		{"1: " + h + " = 0", outcome{"0", "1/" + h, api.OK}},
		{"1: 1/" + h + " = 0", outcome{"0", h, api.OK}},
		{"0: -" + h + " = -" + h, outcome{"1", "0", api.OK}},
		{"1: " + h + "/3 = 0", outcome{"0", "1/" + third(h), api.OK}},
		// The opposite of c, and of another row's element, times 1, divided.
		{two(600) + ": 1/" + two(599) + " = 0", outcome{"0", two(1199), api.OK}},
		{two(600) + ": 1/" + two(600) + " = 0", failing},
		{"1/" + two(600) + ": " + two(599) + " = 0", outcome{"0", "1/" + two(1199), api.OK}},
		{"1/" + two(600) + ": " + two(600) + " = 0", failing},
		{"1: 1/" + two(600) + " = 0; -" + two(599) + " = 0", outcome{"0", two(600) + " 0", api.OK}},
		{"1: 1/" + two(600) + " = 0; -" + two(600) + " = 0", failing},
		// Products and differences of c.
		{two(600) + " 0: 1 " + two(599) + " = 0", outcome{"0 0", two(600), api.OK}},
		{two(600) + " 0: 1 " + two(600) + " = 0", failing},
		{two(600) + " 0: 1 -" + two(600) + " = 0", failing},
		{"1 -1: 1 " + greatest(1) + " = 0", outcome{"0 0", "1", api.OK}},
		{"1 -1: 1 " + h + " = 0", failing},
		{"1 -" + h + ": 1 1 = 0", failing},
		{"1 1: 1 " + h + " = 0", outcome{"0 0", "1", api.OK}},
		{"1 -1/" + two(600) + ": 1 1/" + two(599) + " = 0", outcome{"0 0", "1", api.OK}},
		{"1 -1/" + two(600) + ": 1 1/" + two(600) + " = 0", failing},
		// The goal's value is not calculated.
		{"2: 1 = " + two(1199), outcome{two(1199), "2", api.OK}},
		{h + ": 1 = " + h, outcome{h, h, api.OK}},
		// Products and differences of v of another row.
		{"1: 1 = " + two(600) + "; -" + two(599) + " = 0", outcome{two(600), "1 0", api.OK}},
		{"1: 1 = " + two(600) + "; -" + two(600) + " = 0", failing},
		{"1: 1 = 1; -1 = " + greatest(1), outcome{"1", "1 0", api.OK}},
		{"1: 1 = 1; -1 = " + h, failing},
		{"1: 1 = 1; 0 = " + h, outcome{"1", "1 0", api.OK}},
		{"1: 1 = 1; 1 = " + h, outcome{"1", "1 0", api.OK}},
		{"1: 1 = 1/" + two(600) + "; -1 = 1/" + two(599), outcome{"1/" + two(600), "1 0", api.OK}},
		{"1: 1 = 1/" + two(600) + "; -1 = 1/" + two(600), failing},
		// Products and differences of another row's elements.
		{"1 0: 1 " + two(600) + " = 0; -" + two(599) + " 0 = 0", outcome{"0 0", "1 0", api.OK}},
		{"1 0: 1 " + two(600) + " = 0; -" + two(600) + " 0 = 0", failing},
		{"1 0: 1 " + two(600) + " = 0; " + two(600) + " 0 = 0", failing},
		{"1 0: 1 1 = 0; -1 " + greatest(1) + " = 0", outcome{"0 0", "1 0", api.OK}},
		{"1 0: 1 1 = 0; -1 " + h + " = 0", failing},
		{"1 0: 1 1 = 0; 0 " + h + " = 0", outcome{"0 0", "1 0", api.OK}},
		// A row above the one that is exchanged.
		{"1: -" + two(599) + " = 0; 1 = " + two(600), outcome{two(600), "0 1", api.OK}},
		{"1: -" + two(600) + " = 0; 1 = " + two(600), failing},
		// Whether the contradiction, or the calculation without room, comes first.
		{"0: -1/2 = -" + two(1199) + "; 0 = -1", failing},
		{"0: 0 = -1; -1/2 = -" + two(1199), outcome{"", "1 0", api.ErrNone}},
		{"1: 1/2 = " + two(1199) + "; 0 = -1", outcome{"", "0 1", api.ErrNone}},
		{"1: 0 = " + h + "; -" + h + " = 0", outcome{"1", "", api.ErrRange}},
		{"1 1: 0 1/2 = " + two(1199), outcome{"1 0", "", api.ErrRange}},
		{"1 1: 1/2 0 = " + two(1199), failing},
		// The search without a goal alone would divide by 1/2.
		{"1 0: 1 0 = 5; -1/2 -" + two(1198) + " = -1", outcome{"5 0", "1 0", api.OK}},
		{"1 0: 1 0 = 5; -1/2 -" + two(1199) + " = -1", failing},
	} {
		p := program(c.program)
		expect(t, p, c.want)
		if got := wanted(p); got != c.want {
			t.Errorf("the model of %s: %v, not %v", c.program, got, c.want)
		}
	}
}

// third returns the text of a third of an integer that 3 divides.
func third(s string) string {
	return new(big.Rat).Quo(rational(s), big.NewRat(3, 1)).Num().String()
}

// name returns an error's name, for counting.
func name(e api.Errno) string {
	return map[api.Errno]string{api.OK: "OK", api.ErrNone: "none", api.ErrRange: "range", api.ErrFull: "full"}[e]
}

// expectCounts checks that there were enough cases of each kind.
func expectCounts(t *testing.T, seen, least map[string]int) {
	t.Helper()
	for name, n := range least {
		if seen[name] < n {
			t.Error("too few cases:", seen)
		}
	}
}

// TestAgainstTheModel compares Solve and Check with the model, for programs that fail at all places.
func TestAgainstTheModel(t *testing.T) {
	r := rand.New(rand.NewSource(1))
	seen := map[string]int{}
	for _, bits := range []int{1, 3, 40, 150, 300, 400, 600, 1199} {
		for range 1500 {
			p := random(r, r.Intn(6), r.Intn(8), bits)
			want := wanted(p)
			expect(t, p, want)
			seen[name(want.e)]++
			x, y, e := Solve(p)
			if e == api.ErrFull {
				continue
			}
			if ok := Check(p, x, y, e); ok != checks(p, x, y, e) {
				t.Errorf("Check of %v for %s: %v", want, written(p), ok)
			} else if !ok {
				seen["refused"]++
			}
		}
	}
	expectCounts(t, seen, map[string]int{"OK": 4000, "none": 1000, "range": 1000, "full": 800, "refused": 10})
}

// TestGreatest solves programs with as many columns and rows as there may be.
func TestGreatest(t *testing.T) {
	p := sized(20, 40)
	x, y, e := Solve(p)
	if e != api.OK || !Check(p, x, y, e) {
		t.Fatalf("20 columns and 40 rows: error %d", e)
	}
	for i := range x {
		if texts(x[i:i+1]) != big.NewInt(int64(i)).String() {
			t.Errorf("element %d: %s", i, texts(x[i:i+1]))
		}
	}
	r := rand.New(rand.NewSource(2))
	for range 3 {
		for i := range p.Rows {
			for j := range p.Goal {
				p.Rows[i].A[j] = ours(big.NewRat(int64(max(0, r.Intn(6)-2)), 1))
			}
			p.Rows[i].Value = ours(big.NewRat(int64(r.Intn(100)), 1))
		}
		x, y, e := Solve(p)
		if got, want := (outcome{texts(x), texts(y), e}), wanted(p); got != want || e != api.OK || !Check(p, x, y, e) {
			t.Errorf("20 columns and 40 rows: %v, not %v", got, want)
		}
	}
}

// P9.3

func TestCheck(t *testing.T) {
	h := greatest(0)
	for _, c := range []struct {
		program, x, y string
		e             api.Errno
		want          bool
	}{
		{":", "", "", api.OK, true},
		{":", "0", "", api.OK, false},
		{":", "", "0", api.OK, false},
		{":", "", "", api.ErrNone, false},
		{":", "", "", api.ErrRange, false},
		// Solutions and prices.
		{"1 1: 1 2 = 4; 3 1 = 6", "8/5 6/5", "2/5 1/5", api.OK, true},
		{"1 1: 1 2 = 4; 3 1 = 6", "8/5 6/5 0", "2/5 1/5", api.OK, false},
		{"1 1: 1 2 = 4; 3 1 = 6", "8/5", "2/5 1/5", api.OK, false},
		{"1 1: 1 2 = 4; 3 1 = 6", "", "2/5 1/5", api.OK, false},
		{"1 1: 1 2 = 4; 3 1 = 6", "8/5 6/5", "2/5 1/5 0", api.OK, false},
		{"1 1: 1 2 = 4; 3 1 = 6", "8/5 6/5", "2/5", api.OK, false},
		{"1 1: 1 2 = 4; 3 1 = 6", "8/5 6/5", "", api.OK, false},
		{"1 1: 1 2 = 4; 3 1 = 6", "6/5 8/5", "2/5 1/5", api.OK, false},
		{"1 1: 1 2 = 4; 3 1 = 6", "0 2", "1/2 0", api.OK, false},
		{"1 1: 1 2 = 4; 3 1 = 6", "2 0", "1/5 1/5", api.OK, false},
		{"1 1: 1 2 = 4; 3 1 = 6", "1 1", "2/5 1/5", api.OK, false},
		{"1 1: 1 2 = 4; 3 1 = 6", "8/5 6/5", "1/2 1/5", api.OK, false},
		{"1 1: 1 2 = 4; 3 1 = 6", "8/5 6/5", "2/5 1/5", api.ErrNone, false},
		{"1 1: 1 2 = 4; 3 1 = 6", "8/5 6/5", "2/5 1/5", api.ErrRange, false},
		{"0 0: 0 0 = 0", "5 7", "3", api.OK, true},
		{"0: 1 = 5; -1 = -2", "3", "0 0", api.OK, true},
		{"0: 1 = 5; -1 = -2", "5", "0 0", api.OK, true},
		{"0: 1 = 5; -1 = -2", "2", "0 0", api.OK, true},
		{"0: 1 = 5; -1 = -2", "51/10", "0 0", api.OK, false},
		{"0: 1 = 5; -1 = -2", "19/10", "0 0", api.OK, false},
		// Each of them holds, but for what is negative.
		{"-1: 0 = -1", "1", "1", api.OK, false},
		{"1: -1 = 1", "-1", "0", api.OK, false},
		{"-1: 1 = 1", "-1", "0", api.OK, false},
		{"-1: 1 = 1", "0", "0", api.OK, true},
		{"-1: 1 = 1", "1", "-1", api.OK, false},
		{"-1: 0 = 0", "0", "0", api.OK, true},
		{"-1: 0 = 0", "0", "-3", api.OK, false},
		{"0: 0 = 0", "-3", "0", api.OK, false},
		// A price that is too low for the second column, a row that is too full, values that differ either way.
		{"1 1: 1 0 = 1", "1 0", "1", api.OK, false},
		{"1 1: 1 1 = 1", "1 0", "1", api.OK, true},
		{"1 1: 1 2 = 1", "1 0", "1", api.OK, true},
		{"1 1: 1 1 = 1; 0 -1 = -1", "1 0", "1 0", api.OK, false},
		{"1 1: 1 1 = 1; 0 -1 = -1", "0 1", "1 0", api.OK, true},
		{"1: 1 = 2", "1", "1", api.OK, false},
		{"1: 1 = 2", "2", "2", api.OK, false},
		// Contradictions.
		{"1: -1 = -3; 1 = 2", "", "1 1", api.ErrNone, true},
		{"1: -1 = -3; 1 = 2", "", "7 7", api.ErrNone, true},
		{"1: -1 = -3; 1 = 2", "", "1 4/3", api.ErrNone, true},
		{"1: -1 = -3; 1 = 2", "", "1 3/2", api.ErrNone, false},
		{"1: -1 = -3; 1 = 2", "", "1 2", api.ErrNone, false},
		{"1: -1 = -3; 1 = 2", "", "1 9/10", api.ErrNone, false},
		{"1: -1 = -3; 1 = 2", "", "0 0", api.ErrNone, false},
		{"1: -1 = -3; 1 = 2", "", "1", api.ErrNone, false},
		{"1: -1 = -3; 1 = 2", "", "1 1 0", api.ErrNone, false},
		{"1: -1 = -3; 1 = 2", "", "", api.ErrNone, false},
		{"1: -1 = -3; 1 = 2", "0", "1 1", api.ErrNone, false},
		{"1: -1 = -3; 1 = 2", "", "1 1", api.ErrRange, false},
		{"1: -1 = -3; 1 = 2", "", "1 1", api.OK, false},
		{": = -1", "", "1", api.ErrNone, true},
		{": = -1; = 1", "", "1 0", api.ErrNone, true},
		{": = -1; = 1", "", "1 1", api.ErrNone, false},
		{": = 1", "", "-1", api.ErrNone, false},
		{"0: 0 = 1; 0 = 1", "", "0 -1", api.ErrNone, false},
		{"0 0: 1 0 = -1; 0 -1 = -1", "", "1 0", api.ErrNone, true},
		{"0 0: 1 0 = -1; 0 -1 = -1", "", "1 1", api.ErrNone, false},
		{"0 0: 0 1 = -1; -1 0 = -1", "", "1 1", api.ErrNone, false},
		// Rays.
		{"1 1: 1 -1 = 1", "1 1", "", api.ErrRange, true},
		{"1 1: 1 -1 = 1", "0 1", "", api.ErrRange, true},
		{"1 1: 1 -1 = 1", "1/3 9", "", api.ErrRange, true},
		{"1 1: 1 -1 = 1", "1 0", "", api.ErrRange, false},
		{"1 1: 1 -1 = 1", "0 0", "", api.ErrRange, false},
		{"1 1: 1 -1 = 1", "1", "", api.ErrRange, false},
		{"1 1: 1 -1 = 1", "1 1 0", "", api.ErrRange, false},
		{"1 1: 1 -1 = 1", "", "", api.ErrRange, false},
		{"1 1: 1 -1 = 1", "1 1", "0", api.ErrRange, false},
		{"1 1: 1 -1 = 1", "1 1", "", api.OK, false},
		{"1 1: 1 -1 = 1", "1 1", "", api.ErrNone, false},
		{"1 1: 1 -1 = 1; 0 1 = 1", "1 1", "", api.ErrRange, false},
		{"1 1: 0 1 = 1; 1 -1 = 1", "1 1", "", api.ErrRange, false},
		{"-1: 0 = 1", "-1", "", api.ErrRange, false},
		{"0: 0 = 1", "1", "", api.ErrRange, false},
		{"-1: 0 = 1", "1", "", api.ErrRange, false},
		// There need not be a solution.
		{"1: -1 = 0; 0 = -1", "1", "", api.ErrRange, true},
		// Products and sums without room.
		{"1: 1 = " + h, h, "1", api.OK, true},
		{"1: 2 = " + h, h + "/2", "1/2", api.OK, false},
		{"1: 1 = " + greatest(1), "1/" + h, "0", api.OK, false},
		{"2: 1 = " + h, h, "2", api.OK, false},
		{"0 0 0: " + h + " -" + h + " " + h + " = " + h, "1 1 1", "0", api.OK, true},
		{"0 0 0: " + h + " " + h + " -" + h + " = " + h, "1 1 1", "0", api.OK, false},
		{"0 0 0: 0 0 0 = 0; " + h + " " + h + " -" + h + " = " + h, "1 1 1", "0 0", api.OK, false},
		{"-1: " + h + " = 0; -" + h + " = 0; " + h + " = 0", "0", "1 1 1", api.OK, true},
		{"-1: " + h + " = 0; " + h + " = 0; -" + h + " = 0", "0", "1 1 1", api.OK, false},
		{"0 -1: 0 " + h + " = 0; 0 " + h + " = 0; 0 -" + h + " = 0", "0 0", "1 1 1", api.OK, false},
		{h + " -" + h + " -" + h + ": 0 0 0 = 0", "0 0 0", "1", api.OK, false},
		{h + " -" + h + " 0: 1 0 0 = 0; -1 0 1 = 0", "0 0 0", h + " 0", api.OK, true},
		{"-" + h + " -" + h + " " + h + ": 1 0 0 = 1; 0 1 0 = 1; 0 0 1 = -1", "1 1 1", "0 0 " + h, api.OK, false},
		{"-" + h + " " + h + " -" + h + ": -1 0 0 = -1; 0 1 0 = 1; 0 0 -1 = -1", "1 1 1", h + " " + h + " " + h, api.OK, true},
		{"-" + h + " -" + h + " " + h + ": -1 0 0 = -1; 0 0 1 = 1; 0 -1 0 = -1", "1 1 1", h + " " + h + " " + h, api.OK, false},
		{"-" + h + " " + h + " -" + h + ": -1 0 0 = -1; 0 0 -1 = -1; 0 1 0 = 1", "1 1 1", h + " " + h + " " + h, api.OK, false},
		{"0: " + h + " = -1", "", "1", api.ErrNone, true},
		{"0: " + h + " = -1", "", "2", api.ErrNone, false},
		{"0: 0 = -" + h, "", "1", api.ErrNone, true},
		{"0: 0 = -" + h, "", "2", api.ErrNone, false},
		{"0: " + h + " = -1; -1 = 0; 1 = 0", "", "1 1 1", api.ErrNone, true},
		{"0: " + h + " = -1; 1 = 0; -1 = 0", "", "1 1 1", api.ErrNone, false},
		{"0: 0 = -" + h + "; 0 = -1; 0 = 1", "", "1 1 1", api.ErrNone, false},
		{"0: 0 = -" + h + "; 0 = 1; 0 = -1", "", "1 1 1", api.ErrNone, true},
		{h + ": 0 = 0", "1", "", api.ErrRange, true},
		{h + ": 0 = 0", "2", "", api.ErrRange, false},
		{"1: -" + h + " = 0", "1", "", api.ErrRange, true},
		{"1: -" + h + " = 0", "2", "", api.ErrRange, false},
		{h + " 1 -1:", "1 1 1", "", api.ErrRange, false},
		{h + " -1 1:", "1 1 1", "", api.ErrRange, true},
		{"1 0 0: -" + h + " -1 1 = 0", "1 1 1", "", api.ErrRange, false},
		{"1 0 0: -" + h + " 1 -1 = 0", "1 1 1", "", api.ErrRange, true},
	} {
		p, x, y := program(c.program), list(c.x), list(c.y)
		if got := Check(p, x, y, c.e); got != c.want {
			t.Errorf("Check of %s and %s with the error %d for %s: %v", c.x, c.y, c.e, c.program, got)
		}
		if got := checks(p, x, y, c.e); got != c.want {
			t.Errorf("the model: Check of %s and %s with the error %d for %s: %v", c.x, c.y, c.e, c.program, got)
		}
	}
}

func TestCheckOfOtherErrors(t *testing.T) {
	for s, e := range map[string]api.Errno{"1 1: 1 2 = 4; 3 1 = 6": api.OK, "1: -1 = -3; 1 = 2": api.ErrNone, "1 1: 1 -1 = 1": api.ErrRange, ":": api.OK} {
		p := program(s)
		x, y, _ := Solve(p)
		for other := api.Errno(-3); other < 50; other++ {
			if got := Check(p, x, y, other); got != (other == e) {
				t.Errorf("Check of %s with the error %d: %v", s, other, got)
			}
		}
		for _, other := range []api.Errno{math.MinInt, math.MaxInt, 1 << 32, api.ErrNone + 1<<32} {
			if Check(p, x, y, other) {
				t.Errorf("Check of %s with the error %d", s, other)
			}
		}
	}
}

func TestCheckOfWhatIsNotRight(t *testing.T) {
	// Each of them would be ignored, as it is multiplied by 0.
	for _, f := range wrong() {
		for i := range 2 {
			x, y := list("1 1"), list("1 1")
			x[i] = f
			if p := program("0 0: 0 0 = 0; 0 0 = 0"); Check(p, x, y, api.OK) || Check(p, y, x, api.OK) {
				t.Errorf("Check of %v", f)
			}
			if p := program("0 0: 0 0 = 0; 0 0 = 0; 0 0 = -1"); Check(p, nil, append(slices.Clone(x), of("1")), api.ErrNone) {
				t.Errorf("Check of a contradiction with %v", f)
			}
			if p := program("0 0 1: 0 0 0 = 0"); Check(p, append(slices.Clone(x), of("1")), nil, api.ErrRange) {
				t.Errorf("Check of a ray with %v", f)
			}
		}
		if p := program(":"); Check(p, []api.Frac{f}, nil, api.OK) || Check(p, nil, []api.Frac{f}, api.OK) {
			t.Errorf("Check of %v for nothing", f)
		}
	}
}

// TestCheckOfOthers compares Check with the model for what is almost a certificate.
func TestCheckOfOthers(t *testing.T) {
	r := rand.New(rand.NewSource(3))
	counts := map[bool]int{}
	for range 3000 {
		p := random(r, r.Intn(4), r.Intn(5), 3)
		x, y, e := Solve(p)
		for range 6 {
			switch other := changed(r, x); r.Intn(3) {
			case 0:
				x = other
			case 1:
				y = changed(r, y)
			default:
				p = random(r, len(p.Goal), len(p.Rows), 3)
				x, y, e = Solve(p)
			}
			got := Check(p, x, y, e)
			if got != checks(p, x, y, e) {
				t.Fatalf("Check of %s and %s with the error %d for %s: %v", texts(x), texts(y), e, written(p), got)
			}
			counts[got]++
		}
	}
	if counts[true] < 3000 || counts[false] < 3000 {
		t.Error("too few cases:", counts)
	}
}

// changed returns a list with another element, or one more or fewer.
func changed(r *rand.Rand, l []api.Frac) []api.Frac {
	l = deepList(l)
	switch n := len(l); {
	case r.Intn(6) == 0:
		return append(l, element(r, 3))
	case n == 0:
	case r.Intn(6) == 0:
		return l[:n-1]
	default:
		l[r.Intn(n)] = element(r, 3)
	}
	return l
}

// P9.4

// parts returns all fractions of a program.
func parts(p api.Program) []api.Frac {
	l := slices.Clone(p.Goal)
	for _, row := range p.Rows {
		l = append(append(l, row.A...), row.Value)
	}
	return l
}

// spoil changes all digits, also those behind the end of a slice.
func spoil(l []api.Frac) {
	l = l[:cap(l)]
	for i := range l {
		for _, digits := range [][]int{l[i].P.Digits, l[i].Q.Digits} {
			digits = digits[:cap(digits)]
			for k := range digits {
				digits[k] = 7
			}
		}
		l[i].P.Sign = 5
	}
}

// exact returns the text of fractions, right or not.
func exact(l []api.Frac) string {
	var s strings.Builder
	for _, f := range l {
		for _, x := range []api.Big{f.P, f.Q} {
			s.WriteString(big.NewInt(int64(x.Sign)).String())
			for _, d := range x.Digits {
				s.WriteString("," + big.NewInt(int64(d)).String())
			}
			s.WriteString(";")
		}
	}
	return s.String()
}

func TestArgumentsStay(t *testing.T) {
	r := rand.New(rand.NewSource(4))
	for range 1500 {
		p := random(r, r.Intn(5), r.Intn(6), 60)
		before, text := deep(p), exact(parts(p))
		x, y, e := Solve(p)
		copyX, copyY := exact(x), exact(y)
		Check(p, x, y, e)
		if exact(parts(p)) != text || exact(x) != copyX || exact(y) != copyY {
			t.Fatalf("%s has become %s", written(before), written(p))
		}
		all := append(slices.Clone(x), y...)
		for i := range all {
			rest := slices.Delete(slices.Clone(all), i, i+1)
			was := exact(rest)
			spoil(all[i : i+1 : i+1])
			if exact(rest) != was {
				t.Fatalf("elements of the results for %s share memory", written(before))
			}
		}
		was := exact(y)
		spoil(x)
		if exact(y) != was {
			t.Fatalf("the results for %s share memory", written(before))
		}
		spoil(y)
		if exact(parts(p)) != text {
			t.Fatalf("a result for %s shares memory with it", written(before))
		}
		againX, againY, again := Solve(before)
		if exact(againX) != copyX || exact(againY) != copyY || again != e {
			t.Fatalf("another result for %s", written(before))
		}
	}
}

// TestSharedArguments has goals and rows that are parts of one slice.
func TestSharedArguments(t *testing.T) {
	all := list("1 1 2 4")
	p := api.Program{Goal: all[0:2], Rows: []api.Row{{A: all[1:3], Value: all[3]}, {A: all[0:2], Value: all[2]}, {A: all[0:2], Value: all[3]}}}
	expect(t, p, outcome{"0 2", "0 1 0", api.OK})
	if !Check(p, list("0 2"), list("0 1 0"), api.OK) || texts(all) != "1 1 2 4" {
		t.Error("Check with parts of one slice:", texts(all))
	}
	one := api.Program{Goal: all[:1], Rows: []api.Row{{A: all[:1], Value: all[0]}}}
	if !Check(one, all[:1], all[:1], api.OK) || texts(all) != "1 1 2 4" {
		t.Error("Check of the elements of the program")
	}
}

// P9.5

// corners returns the solutions of a program that no two others have between them: those with as many rows, or columns
// at 0, as there are columns, without any slack.
func corners(p api.Program) [][]*big.Rat {
	var found [][]*big.Rat
	n := len(p.Goal)
	var choose func(from int, tight []int)
	choose = func(from int, tight []int) {
		if len(tight) == n {
			if x, ok := corner(p, tight); ok && isSolution(p, x) {
				found = append(found, x)
			}
			return
		}
		for i := from; i < n+len(p.Rows); i++ {
			choose(i+1, append(slices.Clone(tight), i))
		}
	}
	choose(0, nil)
	return found
}

// corner returns the only point where the columns of some numbers are 0, and the rows of others have no slack.
func corner(p api.Program, tight []int) ([]*big.Rat, bool) {
	n := len(p.Goal)
	var lines [][]*big.Rat
	for _, i := range tight {
		line := make([]*big.Rat, n+1)
		for j := range line {
			line[j] = new(big.Rat)
		}
		if i < n {
			line[i].SetInt64(1)
		} else {
			line = append(rationals(p.Rows[i-n].A), theirs(p.Rows[i-n].Value))
		}
		lines = append(lines, line)
	}
	for c := range n {
		found := slices.IndexFunc(lines[c:], func(line []*big.Rat) bool { return line[c].Sign() != 0 }) + c
		if found < c {
			return nil, false
		}
		lines[c], lines[found] = lines[found], lines[c]
		clearColumn(lines, c)
	}
	x := make([]*big.Rat, n)
	for i, line := range lines {
		x[i] = new(big.Rat).Quo(line[n], line[i])
	}
	return x, true
}

// clearColumn makes the column c of all lines but the one with this index 0.
func clearColumn(lines [][]*big.Rat, c int) {
	for i, line := range lines {
		if i == c {
			continue
		}
		f := new(big.Rat).Quo(line[c], lines[c][c])
		for j := range line {
			line[j] = new(big.Rat).Sub(line[j], new(big.Rat).Mul(f, lines[c][j]))
		}
	}
}

// isSolution is the definition, without any bounds.
func isSolution(p api.Program, x []*big.Rat) bool {
	for _, row := range p.Rows {
		if dot(rationals(row.A), x).Cmp(theirs(row.Value)) > 0 {
			return false
		}
	}
	return !hasNegative(x)
}

// hasRay reports whether there is a direction without an end in which the goal grows.
func hasRay(p api.Program) bool {
	directions := deep(p)
	n := len(p.Goal)
	for i := range directions.Rows {
		directions.Rows[i].Value = of("0")
	}
	directions.Rows = append(directions.Rows, api.Row{A: ones(n), Value: of("1")}, api.Row{A: list(strings.Repeat("-1 ", n)), Value: of("-1")})
	return slices.ContainsFunc(corners(directions), func(x []*big.Rat) bool { return dot(rationals(p.Goal), x).Sign() > 0 })
}

// best returns the greatest value at a corner.
func best(p api.Program, corners [][]*big.Rat) *big.Rat {
	value := dot(rationals(p.Goal), corners[0])
	for _, x := range corners {
		if v := dot(rationals(p.Goal), x); v.Cmp(value) > 0 {
			value = v
		}
	}
	return value
}

func TestTheorem(t *testing.T) {
	r := rand.New(rand.NewSource(5))
	seen := map[string]int{}
	for range 2500 {
		p := random(r, r.Intn(4), r.Intn(5), 4)
		x, y, e := Solve(p)
		seen[name(e)]++
		if !Check(p, x, y, e) {
			t.Fatalf("Check of %s and %s for %s, error %d", texts(x), texts(y), written(p), e)
		}
		ends := corners(p)
		switch {
		case len(ends) == 0:
			if e != api.ErrNone {
				t.Fatalf("%s has no solution: error %d", written(p), e)
			}
		case hasRay(p):
			if e != api.ErrRange {
				t.Fatalf("%s has no greatest solution: error %d", written(p), e)
			}
			expectGreater(t, p, rationals(x), ends)
		default:
			if e != api.OK || !isSolution(p, rationals(x)) || dot(rationals(p.Goal), rationals(x)).Cmp(best(p, ends)) != 0 {
				t.Fatalf("%s: %s is not a greatest solution, error %d", written(p), texts(x), e)
			}
		}
	}
	expectCounts(t, seen, map[string]int{"OK": 600, "none": 250, "range": 250})
}

// expectGreater checks that every corner, and the ray added to it, is a greater solution.
func expectGreater(t *testing.T, p api.Program, ray []*big.Rat, corners [][]*big.Rat) {
	t.Helper()
	goal := rationals(p.Goal)
	for _, x := range corners {
		var further []*big.Rat
		for j := range x {
			further = append(further, new(big.Rat).Add(x[j], ray[j]))
		}
		if !isSolution(p, further) || dot(goal, further).Cmp(dot(goal, x)) <= 0 {
			t.Fatalf("%v is no ray of %s from %v on", ray, written(p), x)
		}
	}
}

// TestCertificatesProve checks that Check accepts nothing that is not so, whatever x and y are.
func TestCertificatesProve(t *testing.T) {
	r := rand.New(rand.NewSource(6))
	small := func(n int) []api.Frac {
		var l []api.Frac
		for range n {
			l = append(l, ours(big.NewRat(int64(r.Intn(3)), int64(1+r.Intn(2)))))
		}
		return l
	}
	seen := map[string]int{}
	for range 4000 {
		p := random(r, 1+r.Intn(2), r.Intn(3), 1)
		x, y := small(len(p.Goal)), small(len(p.Rows))
		ends := corners(p)
		if Check(p, x, y, api.OK) {
			seen["OK"]++
			if !isSolution(p, rationals(x)) || hasRay(p) || best(p, ends).Cmp(dot(rationals(p.Goal), rationals(x))) != 0 {
				t.Fatalf("%s and %s prove nothing of %s", texts(x), texts(y), written(p))
			}
		}
		if Check(p, nil, y, api.ErrNone) {
			seen["none"]++
			if len(ends) > 0 {
				t.Fatalf("%s does not prove that %s has no solution", texts(y), written(p))
			}
		}
		if Check(p, x, nil, api.ErrRange) {
			seen["range"]++
			expectGreater(t, p, rationals(x), ends)
		}
	}
	expectCounts(t, seen, map[string]int{"OK": 500, "none": 100, "range": 300})
}

// P9.6

// dual returns the program with rows and columns exchanged.
func dual(p api.Program) api.Program {
	var d api.Program
	for _, row := range p.Rows {
		d.Goal = append(d.Goal, opposite(row.Value))
	}
	for j, goal := range p.Goal {
		row := api.Row{Value: opposite(goal)}
		for i := range p.Rows {
			row.A = append(row.A, opposite(p.Rows[i].A[j]))
		}
		d.Rows = append(d.Rows, row)
	}
	return d
}

func TestDual(t *testing.T) {
	r := rand.New(rand.NewSource(7))
	seen := map[string]int{}
	for range 4000 {
		p := random(r, r.Intn(6), r.Intn(6), 4)
		d := dual(p)
		x, _, e := Solve(p)
		z, _, f := Solve(d)
		seen[name(e)+" "+name(f)]++
		if (e == api.OK) != (f == api.OK) || e == api.ErrRange && f != api.ErrNone || f == api.ErrRange && e != api.ErrNone {
			t.Fatalf("%s: error %d, and exchanged %d", written(p), e, f)
		}
		if e == api.OK && dot(rationals(p.Goal), rationals(x)).Cmp(new(big.Rat).Neg(dot(rationals(d.Goal), rationals(z)))) != 0 {
			t.Fatalf("%s: %s, and exchanged %s", written(p), texts(x), texts(z))
		}
		if again := dual(d); written(again) != written(p) && len(p.Goal) > 0 && len(p.Rows) > 0 {
			t.Fatalf("%s, exchanged twice, is %s", written(p), written(again))
		}
	}
	expectCounts(t, seen, map[string]int{"OK OK": 1000, "none none": 50, "none range": 300, "range none": 300})
}

// P9.7

// multiplied returns a list multiplied by a number.
func multiplied(l []api.Frac, factor *big.Rat) []api.Frac {
	var out []api.Frac
	for _, x := range rationals(l) {
		out = append(out, ours(x.Mul(x, factor)))
	}
	return out
}

// isMultiple reports whether a list is a positive multiple of another one.
func isMultiple(a, b []*big.Rat) bool {
	place := slices.IndexFunc(a, func(x *big.Rat) bool { return x.Sign() != 0 })
	if len(a) != len(b) || place < 0 || b[place].Sign() == 0 {
		return false
	}
	factor := new(big.Rat).Quo(b[place], a[place])
	for i := range a {
		if b[i].Cmp(new(big.Rat).Mul(a[i], factor)) != 0 {
			return false
		}
	}
	return factor.Sign() > 0
}

func TestMultiples(t *testing.T) {
	r := rand.New(rand.NewSource(8))
	seen := map[string]int{}
	for range 3000 {
		p := random(r, 1+r.Intn(4), 1+r.Intn(5), 4)
		x, y, e := Solve(p)
		seen[name(e)]++
		other := deep(p)
		factor := big.NewRat(int64(1+r.Intn(9)), int64(1+r.Intn(9)))
		if i := r.Intn(len(p.Rows) + 1); i < len(p.Rows) {
			row := &other.Rows[i]
			row.A, row.Value = multiplied(row.A, factor), multiplied([]api.Frac{row.Value}, factor)[0]
		} else {
			other.Goal = multiplied(other.Goal, factor)
		}
		x2, y2, e2 := Solve(other)
		if e2 != e || e == api.OK && texts(x) != texts(x2) || e == api.ErrRange && !isMultiple(rationals(x), rationals(x2)) || !Check(other, x2, y2, e2) {
			t.Fatalf("%s: %s, %s, error %d; multiplied: %s, %s, error %d", written(p), texts(x), texts(y), e, texts(x2), texts(y2), e2)
		}
	}
	expectCounts(t, seen, map[string]int{"OK": 1000, "none": 300, "range": 500})
}

func TestFurtherRow(t *testing.T) {
	r := rand.New(rand.NewSource(9))
	seen := map[string]int{}
	for range 3000 {
		p := random(r, 1+r.Intn(4), r.Intn(5), 4)
		x, _, e := Solve(p)
		further := deep(p)
		further.Rows = slices.Insert(further.Rows, r.Intn(len(p.Rows)+1), random(r, len(p.Goal), 1, 4).Rows[0])
		x2, _, e2 := Solve(further)
		seen[name(e)+" "+name(e2)]++
		if e == api.ErrNone && e2 != api.ErrNone || e == api.OK && e2 == api.ErrRange {
			t.Fatalf("%s: error %d; %s: error %d", written(p), e, written(further), e2)
		}
		goal := rationals(p.Goal)
		if e == api.OK && e2 == api.OK && dot(goal, rationals(x2)).Cmp(dot(goal, rationals(x))) > 0 {
			t.Fatalf("%s: %s; %s: %s", written(p), texts(x), written(further), texts(x2))
		}
	}
	expectCounts(t, seen, map[string]int{"OK OK": 1000, "OK none": 50, "range OK": 50, "range range": 300, "none none": 200})
}
