package frac

import (
	"math"
	exact "math/big"
	"math/rand"
	"slices"
	"strings"
	"testing"

	"tonneau/api"
	"tonneau/big"
)

// digit is the greatest digit of a big integer.
const digit = 1048575

// with returns a big integer with some digits, the lowest one first.
func with(sign int, digits ...int) api.Big { return api.Big{Sign: sign, Digits: digits} }

// over returns p and q as they are, right or not.
func over(p, q api.Big) api.Frac { return api.Frac{P: p, Q: q} }

// ints returns two ints as they are.
func ints(p, q int) api.Frac { return over(big.Of(p), big.Of(q)) }

// whole returns an int of the library.
func whole(n int) *exact.Int { return exact.NewInt(int64(n)) }

// power returns 2^n.
func power(n uint) *exact.Int { return new(exact.Int).Lsh(exact.NewInt(1), n) }

// plus returns the sum of an integer and an int.
func plus(x *exact.Int, n int) *exact.Int { return new(exact.Int).Add(x, whole(n)) }

// product returns the product of two integers.
func product(x, y *exact.Int) *exact.Int { return new(exact.Int).Mul(x, y) }

// fits reports whether there is room for an integer.
func fits(x *exact.Int) bool { return x.BitLen() <= 1200 }

// ours returns an integer of the library, for which there is room, as one of package big.
func ours(x *exact.Int) api.Big {
	a := api.Big{Sign: x.Sign()}
	rest, mask := new(exact.Int).Abs(x), whole(digit)
	for ; rest.Sign() > 0; rest.Rsh(rest, 20) {
		a.Digits = append(a.Digits, int(new(exact.Int).And(rest, mask).Int64()))
	}
	return a
}

// theirs returns a right big integer as one of the library.
func theirs(a api.Big) *exact.Int {
	x := new(exact.Int)
	for _, d := range slices.Backward(a.Digits) {
		x.Add(x.Lsh(x, 20), whole(d))
	}
	return x.Mul(x, whole(a.Sign))
}

// fraction returns a rational number as a right fraction.
func fraction(x *exact.Rat) api.Frac { return over(ours(x.Num()), ours(x.Denom())) }

// ratio returns p / q as a right fraction.
func ratio(p, q *exact.Int) api.Frac { return fraction(new(exact.Rat).SetFrac(p, q)) }

// value returns a right fraction as a rational number.
func value(f api.Frac) *exact.Rat { return new(exact.Rat).SetFrac(theirs(f.P), theirs(f.Q)) }

// same reports whether two fractions are equal, right or not.
func same(a, b api.Frac) bool { return big.Same(a.P, b.P) && big.Same(a.Q, b.Q) }

// isRight is the definition, word for word.
func isRight(f api.Frac) bool {
	if !big.Right(f.P) || !big.Right(f.Q) || f.Q.Sign <= 0 {
		return false
	}
	p, q := theirs(f.P), theirs(f.Q)
	return new(exact.Int).GCD(nil, nil, p.Abs(p), q).Cmp(whole(1)) == 0
}

// wrongBigs returns big integers that are not right.
func wrongBigs() []api.Big {
	long := slices.Repeat([]int{1}, 61)
	return []api.Big{with(1), with(-1), with(0, 1), with(2, 1), with(1, 0), with(1, 1, 0), with(1, -1), with(1, digit+1), with(1, math.MinInt), with(math.MinInt, 3), with(1, long...)}
}

// wrong returns fractions that are not right.
func wrong() []api.Frac {
	list := []api.Frac{
		{}, ints(0, 0), ints(1, 0), ints(-1, 0), ints(0, 2), ints(0, -1), ints(2, 4), ints(-2, 4), ints(1, -2), ints(-1, -2), ints(1, -1), ints(6, 3), ints(7, 7),
		ints(digit, 3*digit), ints(math.MinInt, 6), over(ours(power(1199)), big.Of(2)), over(ours(power(1199)), ours(power(1199))),
		over(ours(power(1199)), big.Neg(ours(plus(power(1199), 1)))),
	}
	for _, a := range wrongBigs() {
		list = append(list, over(a, big.Of(1)), over(big.Of(1), a), over(a, a), over(a, big.Of(0)), over(big.Of(0), a))
	}
	return list
}

// expect checks a result that is right, and its error.
func expect(t *testing.T, what string, got api.Frac, err api.Errno, want *exact.Rat) {
	t.Helper()
	if err != api.OK || !isRight(got) || value(got).Cmp(want) != 0 {
		t.Errorf("%s: %v, error %d, not %v", what, got, err, want)
	}
}

// refused checks an error, with which the result is zero.
func refused(t *testing.T, what string, got api.Frac, err, want api.Errno) {
	t.Helper()
	if err != want || got.P.Sign != 0 || got.Q.Sign != 0 || len(got.P.Digits)+len(got.Q.Digits) > 0 {
		t.Errorf("%s: %v, error %d, not %d", what, got, err, want)
	}
}

// integer returns an integer of up to so many bits, which is often near a power of 2.
func integer(r *rand.Rand, bits int) *exact.Int {
	x := new(exact.Int).Rand(r, power(uint(1+r.Intn(bits))))
	if r.Intn(4) == 0 {
		x = plus(power(uint(r.Intn(bits))), r.Intn(3)-1)
	}
	if r.Intn(2) == 0 {
		x.Neg(x)
	}
	return x
}

// sample returns right fractions, of which some are small, and some have integers of up to so many bits.
func sample(r *rand.Rand, n, bits int) []api.Frac {
	var list []api.Frac
	for _, p := range []int{0, 1, -1, 2, -3} {
		for _, q := range []int{1, 2, 3} {
			list = append(list, fraction(exact.NewRat(int64(p), int64(q))))
		}
	}
	for len(list) < n {
		size := []int{4, 40, 90, bits / 3, bits / 2, bits}[r.Intn(6)]
		if q := integer(r, size); q.Sign() != 0 {
			list = append(list, ratio(integer(r, size), q))
		}
	}
	return list
}

// P5.1

func TestRight(t *testing.T) {
	for _, f := range wrong() {
		if Right(f) || isRight(f) {
			t.Errorf("%v is right", f)
		}
	}
	list := append(sample(rand.New(rand.NewSource(1)), 300, 1200), ints(0, 1), over(with(0, []int{}...), with(1, 1)), ints(-3, 2), ints(digit, digit+1))
	for _, f := range list {
		if !Right(f) || !isRight(f) {
			t.Errorf("%v is not right", f)
		}
	}
	for p := -12; p <= 12; p++ {
		for q := -12; q <= 12; q++ {
			if f := ints(p, q); Right(f) != isRight(f) {
				t.Errorf("Right of %d/%d: %v", p, q, Right(f))
			}
		}
	}
}

// checkNew checks New for two integers for which there is room.
func checkNew(t *testing.T, p, q *exact.Int) {
	t.Helper()
	got, err := New(ours(p), ours(q))
	if q.Sign() == 0 {
		refused(t, "New of "+p.String()+" and 0", got, err, api.ErrDivide)
		return
	}
	expect(t, "New of "+p.String()+" and "+q.String(), got, err, new(exact.Rat).SetFrac(p, q))
}

func TestNew(t *testing.T) {
	r := rand.New(rand.NewSource(2))
	for range 1500 {
		p, q, f := integer(r, 600), integer(r, 600), integer(r, 600)
		checkNew(t, p, q)
		checkNew(t, product(p, f), product(q, f))
		checkNew(t, p, product(p, f))
		checkNew(t, product(p, f), p)
		checkNew(t, integer(r, 1200), integer(r, 1200))
	}
	greatest := plus(power(1200), -1)
	least := new(exact.Int).Neg(greatest)
	list := []*exact.Int{whole(0), whole(1), whole(-1), greatest, least, power(1199), power(600)}
	for _, p := range list {
		for _, q := range list {
			checkNew(t, p, q)
		}
	}
}

func TestNewOfWhatIsNotRight(t *testing.T) {
	for _, a := range wrongBigs() {
		for _, b := range append(wrongBigs(), big.Of(0), big.Of(1), big.Of(-6)) {
			f, err := New(a, b) // also over 0
			refused(t, "New", f, err, api.ErrArg)
			f, err = New(b, a)
			refused(t, "New", f, err, api.ErrArg)
		}
	}
}

func TestOf(t *testing.T) {
	list := []int{math.MinInt, math.MinInt + 1, -(1 << 40), -digit - 1, -6, -4, -2, -1, 0, 1, 2, 4, 6, 7, 9, digit, 1 << 40, 1 << 62, math.MaxInt}
	for _, p := range list {
		for _, q := range list {
			got, err := Of(p, q)
			if q == 0 {
				refused(t, "Of over 0", got, err, api.ErrDivide)
				continue
			}
			expect(t, "Of", got, err, new(exact.Rat).SetFrac(whole(p), whole(q)))
			if from, err := New(big.Of(p), big.Of(q)); err != api.OK || !same(got, from) {
				t.Errorf("Of(%d, %d) is not New", p, q)
			}
		}
	}
}

// P5.2

// operation is one of the calculations: the integers that it forms, in their order, and the fraction of the last two of them.
type operation struct {
	name string
	f    func(a, b api.Frac) (api.Frac, api.Errno)
	form func(p, q, r, s *exact.Int) []*exact.Int
}

func operations() []operation {
	return []operation{
		{"Add", Add, func(p, q, r, s *exact.Int) []*exact.Int {
			x, y := product(p, s), product(r, q)
			return []*exact.Int{x, y, new(exact.Int).Add(x, y), product(q, s)}
		}},
		{"Sub", Sub, func(p, q, r, s *exact.Int) []*exact.Int {
			x, y := product(p, s), product(r, q)
			return []*exact.Int{x, y, new(exact.Int).Sub(x, y), product(q, s)}
		}},
		{"Mul", Mul, func(p, q, r, s *exact.Int) []*exact.Int { return []*exact.Int{product(p, r), product(q, s)} }},
		{"Div", Div, func(p, q, r, s *exact.Int) []*exact.Int { return []*exact.Int{product(p, s), product(q, r)} }},
	}
}

// check checks an operation for two right fractions, and returns its error.
func (o operation) check(t *testing.T, a, b api.Frac) api.Errno {
	t.Helper()
	what := o.name + " of " + value(a).String() + " and " + value(b).String()
	got, err := o.f(a, b)
	list := o.form(theirs(a.P), theirs(a.Q), theirs(b.P), theirs(b.Q))
	last := list[len(list)-2:]
	if last[1].Sign() == 0 {
		refused(t, what, got, err, api.ErrDivide)
	} else if !slices.ContainsFunc(list, func(x *exact.Int) bool { return !fits(x) }) {
		expect(t, what, got, err, new(exact.Rat).SetFrac(last[0], last[1]))
	} else {
		refused(t, what, got, err, api.ErrFull)
	}
	return err
}

func TestOperations(t *testing.T) {
	r := rand.New(rand.NewSource(3))
	for _, o := range operations() {
		seen := map[api.Errno]int{}
		for _, bits := range []int{600, 610, 1200} {
			list := sample(r, 60, bits)
			for range 10 {
				list = append(list, ratio(plus(power(uint(bits-1)), r.Intn(9)), plus(power(uint(bits-1)), -r.Intn(9))))
			}
			for _, a := range list {
				for _, b := range list {
					seen[o.check(t, a, b)]++
				}
			}
		}
		if seen[api.OK] < 4000 || seen[api.ErrFull] < 400 {
			t.Errorf("%s: %v", o.name, seen)
		}
	}
}

// TestOperationsOfNumbers compares with the numbers of the library's own operations.
func TestOperationsOfNumbers(t *testing.T) {
	list := sample(rand.New(rand.NewSource(4)), 90, 400)
	for _, a := range list {
		for _, b := range list {
			x, y := value(a), value(b)
			sum, err := Add(a, b)
			expect(t, "Add", sum, err, new(exact.Rat).Add(x, y))
			difference, err := Sub(a, b)
			expect(t, "Sub", difference, err, new(exact.Rat).Sub(x, y))
			times, err := Mul(a, b)
			expect(t, "Mul", times, err, new(exact.Rat).Mul(x, y))
			if y.Sign() != 0 {
				quotient, err := Div(a, b)
				expect(t, "Div", quotient, err, new(exact.Rat).Quo(x, y))
			}
		}
	}
}

// TestFull has one integer at a time that just fits, or just does not. What could be made smaller counts as it is.
func TestFull(t *testing.T) {
	one, two := whole(1), whole(2)
	top := plus(power(1200), -1)
	for _, c := range []struct {
		name       string
		p, q, r, s *exact.Int
		want       api.Errno
	}{
		{"Mul", power(600), one, power(599), one, api.OK},
		{"Mul", power(600), one, power(600), one, api.ErrFull},
		{"Mul", one, power(600), one, power(599), api.OK},
		{"Mul", one, power(600), one, power(600), api.ErrFull},
		{"Mul", power(600), whole(3), whole(3), power(600), api.OK},
		{"Mul", power(1199), whole(3), whole(3), power(1199), api.ErrFull},
		{"Mul", top, one, one, one, api.OK},
		{"Mul", top, one, whole(-1), one, api.OK},
		{"Mul", top, two, two, one, api.ErrFull},
		{"Mul", top, one, whole(0), one, api.OK},
		{"Mul", one, top, one, two, api.ErrFull},
		{"Mul", whole(0), one, two, top, api.OK},
		{"Div", top, one, one, one, api.OK},
		{"Div", top, one, whole(0), one, api.ErrDivide},
		{"Div", one, top, whole(0), one, api.ErrDivide},
		{"Div", top, one, one, two, api.ErrFull},
		{"Div", one, top, whole(-2), one, api.ErrFull},
		{"Div", top, two, top, two, api.ErrFull},
		{"Div", power(1199), one, power(1199), one, api.OK},
		{"Div", power(1199), whole(3), power(1199), whole(3), api.ErrFull},
		{"Add", top, one, one, one, api.ErrFull},
		{"Add", top, one, whole(-1), one, api.OK},
		{"Add", power(1199), one, power(1199), one, api.ErrFull},
		{"Add", power(1199), one, plus(power(1199), -1), one, api.OK},
		{"Add", top, one, whole(0), one, api.OK},
		{"Add", top, one, one, two, api.ErrFull},
		{"Add", one, two, top, one, api.ErrFull},
		{"Add", top, two, new(exact.Int).Neg(top), two, api.ErrFull},
		{"Add", one, power(600), one, plus(power(599), 1), api.OK},
		{"Add", one, power(600), one, plus(power(600), 1), api.ErrFull},
		{"Add", whole(0), one, one, top, api.OK},
		{"Add", one, power(1199), one, power(1199), api.ErrFull},
		{"Sub", one, power(1199), one, power(1199), api.ErrFull},
		{"Sub", top, one, whole(-1), one, api.ErrFull},
		{"Sub", top, one, one, one, api.OK},
		{"Sub", top, one, top, one, api.OK},
		{"Sub", top, two, top, two, api.ErrFull},
		{"Sub", whole(0), one, top, one, api.OK},
		{"Sub", whole(-1), one, top, one, api.ErrFull},
		{"Sub", one, two, top, one, api.ErrFull},
		{"Sub", one, power(600), one, plus(power(600), 1), api.ErrFull},
	} {
		for _, o := range operations() {
			if o.name == c.name {
				if err := o.check(t, ratio(c.p, c.q), ratio(c.r, c.s)); err != c.want {
					t.Errorf("%s of %v/%v and %v/%v: error %d, not %d", c.name, c.p, c.q, c.r, c.s, err, c.want)
				}
			}
		}
	}
}

func TestOperationsOfWhatIsNotRight(t *testing.T) {
	huge := ratio(power(1199), whole(3))
	for _, a := range wrong() {
		for _, b := range append(wrong(), ints(0, 1), ints(1, 1), ints(-3, 2), huge) {
			for _, o := range operations() {
				f, err := o.f(a, b) // also with 0
				refused(t, o.name, f, err, api.ErrArg)
				f, err = o.f(b, a)
				refused(t, o.name, f, err, api.ErrArg)
			}
		}
	}
}

func TestDivideByZero(t *testing.T) {
	for _, a := range sample(rand.New(rand.NewSource(5)), 60, 1200) {
		f, err := Div(a, ints(0, 1))
		refused(t, "Div", f, err, api.ErrDivide)
	}
}

// P5.3

// checkOrder checks Compare for all pairs of some right fractions.
func checkOrder(t *testing.T, list ...api.Frac) {
	t.Helper()
	for _, a := range list {
		for _, b := range list {
			if got, want := Compare(a, b), value(a).Cmp(value(b)); got != want {
				t.Errorf("Compare of %v and %v: %d, not %d", value(a), value(b), got, want)
			}
		}
	}
}

func TestCompare(t *testing.T) {
	r := rand.New(rand.NewSource(6))
	for _, bits := range []int{20, 200, 1200} {
		checkOrder(t, sample(r, 120, bits)...)
	}
	for _, a := range wrong() {
		for _, b := range append(wrong(), ints(0, 1), ints(5, 1), ints(-5, 3)) {
			if Compare(a, b) != 0 || Compare(b, a) != 0 {
				t.Errorf("Compare of %v and %v is not 0", a, b)
			}
		}
	}
}

// TestCompareOfNeighbours compares fractions that differ very little, for whose products there is no room.
func TestCompareOfNeighbours(t *testing.T) {
	near := []*exact.Int{power(1198), plus(power(1198), 1), plus(power(1199), -1), power(1199), plus(power(1200), -9)}
	for _, p := range append(near, whole(3), whole(-3), new(exact.Int).Neg(power(1199))) {
		for _, q := range near {
			checkOrder(t, ratio(p, q), ratio(plus(p, 1), q), ratio(plus(p, 1), plus(q, 1)), ratio(p, plus(q, 1)), ratio(plus(p, 2), plus(q, 2)))
		}
	}
}

// TestCompareOfTheGoldenSection compares the fractions for which Euclid's algorithm takes longest.
func TestCompareOfTheGoldenSection(t *testing.T) {
	list := []*exact.Int{whole(1), whole(1)}
	for n := 2; fits(list[n-1]); n++ {
		list = append(list, new(exact.Int).Add(list[n-1], list[n-2]))
	}
	last := len(list) - 4
	for _, n := range []int{0, 1, 2, 3, 10, 11, 100, 831, last} {
		f := list[n : n+3]
		a, b := ratio(f[1], f[0]), ratio(f[2], f[1])
		c, d := ratio(product(f[1], whole(-1)), f[0]), ratio(product(f[2], whole(-1)), f[1])
		checkOrder(t, a, b, c, d, over(a.Q, a.P), over(b.Q, b.P))
	}
}

func TestFloor(t *testing.T) {
	for _, f := range append(sample(rand.New(rand.NewSource(7)), 800, 1200), ints(-3, 2), ints(3, 2), ints(-1, 1), ints(-4, 1), ints(-1, 3)) {
		want := new(exact.Int).Div(theirs(f.P), theirs(f.Q)) // rounded down, because Q is positive
		if got := Floor(f); !big.Right(got) || theirs(got).Cmp(want) != 0 {
			t.Errorf("Floor of %v: %v, not %v", value(f), got, want)
		}
	}
	for _, f := range wrong() {
		if got := Floor(f); got.Sign != 0 || len(got.Digits) > 0 {
			t.Errorf("Floor of %v: %v", f, got)
		}
	}
}

// P5.4

func TestText(t *testing.T) {
	for _, f := range sample(rand.New(rand.NewSource(8)), 300, 1200) {
		if got, want := Text(f), value(f).String(); got != want {
			t.Errorf("Text of %v: %q, not %q", f, got, want)
		}
	}
	for _, f := range wrong() {
		if got := Text(f); got != "" {
			t.Errorf("Text of %v: %q", f, got)
		}
	}
}

func TestRead(t *testing.T) {
	for _, x := range []*exact.Rat{exact.NewRat(-3, 2), exact.NewRat(0, 1), exact.NewRat(1, 1), exact.NewRat(-7, 1), exact.NewRat(math.MaxInt, math.MaxInt-1)} {
		f, err := Read(x.String())
		expect(t, "Read of "+x.String(), f, err, x)
	}
	greatest := new(exact.Rat).SetFrac(plus(power(1200), -1), plus(power(1200), -2))
	f, err := Read(greatest.String())
	expect(t, "Read of a great fraction", f, err, greatest)
}

func TestReadOfWhatIsNoFraction(t *testing.T) {
	full, nines := power(1200).String(), strings.Repeat("9", 3000)
	for _, s := range []string{
		"", "/", "1", "-1", "0", "1/", "/1", "2/4", "0/2", "0/0", "1/0", "0/-1", "1/-2", "-1/-2", "-0/1", "+1/2", "1/+2", "01/2", "1/02", "1/2/3", "1/2/", "/1/2", "1//2",
		" 1/2", "1 /2", "1/ 2", "1/2 ", "1:2", "1.0/2", "a/2", "1/b", "--1/2", "3/3", "6/4", "1/2\n", "1\x00/2", "1\\2", "½", "1∕2",
		full + "/1", "1/" + full, "-" + full + "/1", nines + "/" + nines, "x/" + full, full + "/x",
	} {
		f, err := Read(s)
		refused(t, "Read of "+s, f, err, api.ErrForm)
	}
}

// P5.5

// roomy returns a copy with more room than its digits take, so that it would show if something were appended to it.
func roomy(f api.Frac) api.Frac {
	return over(with(f.P.Sign, slices.Grow(slices.Clone(f.P.Digits), 9)...), with(f.Q.Sign, slices.Grow(slices.Clone(f.Q.Digits), 9)...))
}

// spoil overwrites all memory of some integers.
func spoil(list ...api.Big) {
	for _, a := range list {
		for i := range a.Digits[:cap(a.Digits)] {
			a.Digits[:cap(a.Digits)][i] = -77
		}
	}
}

func TestResultsShareNoMemory(t *testing.T) {
	list := append(sample(rand.New(rand.NewSource(9)), 45, 600), ints(1, 1), ints(-1, 1))
	for _, a := range list {
		for _, b := range append(list, a) {
			x, y := roomy(a), roomy(b)
			for _, o := range append(operations(), operation{"New", func(x, y api.Frac) (api.Frac, api.Errno) { return New(x.P, y.Q) }, nil}) {
				first, _ := o.f(x, y)
				keep := roomy(first)
				second, _ := o.f(x, y)
				spoil(second.P)
				spoil(second.Q, Floor(x))
				spoil(first.P)
				if !same(x, a) || !same(y, b) || !big.Same(first.Q, keep.Q) {
					t.Fatalf("%s of %v and %v shares memory", o.name, value(a), value(b))
				}
			}
		}
		one, _ := New(a.Q, a.Q)
		spoil(one.P)
		if !same(over(one.Q, a.Q), over(big.Of(1), a.Q)) {
			t.Fatal("New shares memory")
		}
	}
}

func TestArgumentsStay(t *testing.T) {
	for _, a := range append(wrong(), ints(-7, 3), ratio(power(1100), whole(7))) {
		for _, b := range append(wrong(), ints(5, 9), ratio(whole(-5), power(800))) {
			x, y := roomy(a), roomy(b)
			for _, o := range operations() {
				o.f(x, y)
			}
			New(x.P, y.P)
			New(x.Q, y.P)
			Compare(x, y)
			Right(x)
			Floor(x)
			Text(x)
			if !same(x, a) || !same(y, b) {
				t.Fatalf("%v or %v was changed", a, b)
			}
		}
	}
	of, _ := Of(1, 1)
	read, _ := Read("1/1")
	spoil(of.P, of.Q, read.P, read.Q)
	again, _ := Of(1, 1)
	back, _ := Read("1/1")
	if !same(again, ints(1, 1)) || !same(back, ints(1, 1)) {
		t.Error("results of Of or Read share memory")
	}
}

// P5.6

// calls returns a function that passes results on, and notes in ok whether one of them came with an error.
func calls(t *testing.T, ok *bool) func(f api.Frac, err api.Errno) api.Frac {
	return func(f api.Frac, err api.Errno) api.Frac {
		if err == api.OK && !isRight(f) {
			t.Fatal("not right:", f)
		}
		*ok = *ok && err == api.OK
		return f
	}
}

func TestField(t *testing.T) {
	r := rand.New(rand.NewSource(10))
	list := sample(r, 60, 500)
	zero, one := ints(0, 1), ints(1, 1)
	checked := 0
	for range 2500 {
		a, b, c := list[r.Intn(len(list))], list[r.Intn(len(list))], list[r.Intn(len(list))]
		ok := true
		of := calls(t, &ok)
		laws := [][2]api.Frac{
			{of(Add(a, b)), of(Add(b, a))},
			{of(Mul(a, b)), of(Mul(b, a))},
			{of(Add(of(Add(a, b)), c)), of(Add(a, of(Add(b, c))))},
			{of(Mul(of(Mul(a, b)), c)), of(Mul(a, of(Mul(b, c))))},
			{of(Mul(a, of(Add(b, c)))), of(Add(of(Mul(a, b)), of(Mul(a, c))))},
			{of(Add(a, zero)), a},
			{of(Mul(a, one)), a},
			{of(Mul(a, zero)), zero},
			{of(Sub(of(Add(a, b)), b)), a},
			{of(Add(of(Sub(a, b)), b)), a},
			{of(Sub(a, a)), zero},
		}
		if b.P.Sign != 0 {
			laws = append(laws, [2]api.Frac{of(Div(of(Mul(a, b)), b)), a}, [2]api.Frac{of(Mul(of(Div(a, b)), b)), a}, [2]api.Frac{of(Div(b, b)), one})
		}
		if !ok {
			continue
		}
		checked++
		for i, l := range laws {
			if !same(l[0], l[1]) {
				t.Fatalf("law %d does not hold for %v, %v, %v", i, value(a), value(b), value(c))
			}
		}
	}
	if checked < 1000 {
		t.Error("only", checked, "triples were checked")
	}
}

// P5.7

func TestOrder(t *testing.T) {
	r := rand.New(rand.NewSource(11))
	list := sample(r, 100, 600)
	checked := 0
	for range 4000 {
		a, b, c := list[r.Intn(len(list))], list[r.Intn(len(list))], list[r.Intn(len(list))]
		order := Compare(a, b)
		if order != -Compare(b, a) || (order == 0) != same(a, b) || Compare(a, a) != 0 {
			t.Fatalf("no order of %v and %v", value(a), value(b))
		}
		if order <= 0 && Compare(b, c) <= 0 && Compare(a, c) > 0 {
			t.Fatalf("no order of %v, %v and %v", value(a), value(b), value(c))
		}
		ok := true
		of := calls(t, &ok)
		difference, left, right := of(Sub(a, b)), of(Add(a, c)), of(Add(b, c))
		productLeft, productRight := of(Mul(a, c)), of(Mul(b, c))
		if !ok {
			continue
		}
		checked++
		if order != difference.P.Sign || order != Compare(difference, ints(0, 1)) || order != Compare(left, right) {
			t.Fatalf("Compare of %v and %v is not that of the difference, or of sums", value(a), value(b))
		}
		if Compare(productLeft, productRight) != order*c.P.Sign {
			t.Fatalf("Compare of %v and %v is not that of products with %v", value(a), value(b), value(c))
		}
	}
	if checked < 1000 {
		t.Error("only", checked, "triples were checked")
	}
}

// P5.8

func TestReadOfText(t *testing.T) {
	for _, f := range sample(rand.New(rand.NewSource(12)), 300, 1200) {
		if back, err := Read(Text(f)); err != api.OK || !same(back, f) {
			t.Errorf("Read of Text of %v: %v, error %d", value(f), back, err)
		}
	}
}

func TestMultiplesHaveTheSameFraction(t *testing.T) {
	r := rand.New(rand.NewSource(13))
	for _, f := range sample(r, 300, 700) {
		n := integer(r, 500)
		if n.Sign() == 0 {
			continue
		}
		got, err := New(ours(product(theirs(f.P), n)), ours(product(theirs(f.Q), n)))
		if err != api.OK || !same(got, f) {
			t.Errorf("New of a multiple of %v: %v, error %d", value(f), got, err)
		}
	}
}

func TestFloorIsBelow(t *testing.T) {
	for _, f := range sample(rand.New(rand.NewSource(14)), 500, 1190) {
		floor := Floor(f)
		next, err := big.Add(floor, big.Of(1))
		if err != api.OK || Compare(over(floor, big.Of(1)), f) > 0 || Compare(over(next, big.Of(1)), f) <= 0 {
			t.Errorf("Floor of %v: %v", value(f), floor)
		}
	}
}

// The examples of the chapter.

func TestExamples(t *testing.T) {
	for _, c := range []struct {
		p, q int
		text string
		err  api.Errno
	}{{6, -4, "-3/2", api.OK}, {0, 7, "0/1", api.OK}, {1, 0, "", api.ErrDivide}} {
		if f, err := Of(c.p, c.q); err != c.err || Text(f) != c.text {
			t.Errorf("Of(%d, %d): %q, error %d", c.p, c.q, Text(f), err)
		}
	}
	wants := map[string]string{"Add": "5/6", "Sub": "1/6", "Mul": "1/6", "Div": "3/2"}
	for _, o := range operations() {
		if f, err := o.f(ints(1, 2), ints(1, 3)); err != api.OK || Text(f) != wants[o.name] {
			t.Errorf("%s: %q, error %d", o.name, Text(f), err)
		}
	}
	if Compare(ints(-1, 2), ints(-1, 3)) != -1 || big.Text(Floor(ints(-3, 2))) != "-2" {
		t.Error("Compare, or Floor")
	}
}
