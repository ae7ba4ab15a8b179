package big

import (
	"math"
	exact "math/big"
	"math/rand"
	"slices"
	"strings"
	"testing"

	"tonneau/api"
)

// digit is the greatest digit, and half is the one with the highest bit alone.
const (
	digit = 1048575
	half  = 524288
)

// with returns a big integer with some digits, the lowest one first.
func with(sign int, digits ...int) api.Big { return api.Big{Sign: sign, Digits: digits} }

// many returns n equal digits.
func many(d, n int) []int { return slices.Repeat([]int{d}, n) }

// greatest returns 2^1200 - 1.
func greatest() api.Big { return with(1, many(digit, 60)...) }

// power returns 2^n.
func power(n int) api.Big { return with(1, append(many(0, n/20), 1<<(n%20))...) }

// wrong returns big integers that are not right.
func wrong() []api.Big {
	return []api.Big{
		with(1), with(-1), with(0, 1), with(0, 0), with(2, 1), with(-2, 1), with(2), with(math.MinInt, 1), with(math.MaxInt),
		with(1, 0), with(-1, 5, 0), with(1, -1), with(1, digit+1), with(-1, -1, 1), with(1, 3, digit+1, 1),
		with(1, math.MinInt), with(1, 2, math.MaxInt), with(1, many(1, 61)...), with(-1, append(many(0, 60), 1)...), with(0, many(0, 61)...),
		with(1, append(many(1, 60), 0)...),
	}
}

// value returns a right big integer as one of the library.
func value(t *testing.T, a api.Big) *exact.Int {
	t.Helper()
	if !isRight(a) {
		t.Fatal("not right:", a)
	}
	x := new(exact.Int)
	for i := len(a.Digits) - 1; i >= 0; i-- {
		x.Lsh(x, 20)
		x.Add(x, exact.NewInt(int64(a.Digits[i])))
	}
	return x.Mul(x, exact.NewInt(int64(a.Sign)))
}

// isRight is the definition, word for word.
func isRight(a api.Big) bool {
	ok := (a.Sign == -1 || a.Sign == 0 || a.Sign == 1) && len(a.Digits) <= 60
	for i, d := range a.Digits {
		ok = ok && d >= 0 && d <= digit && (i < len(a.Digits)-1 || d != 0)
	}
	return ok && (len(a.Digits) > 0) == (a.Sign != 0)
}

// expect checks a result that is right, and its error.
func expect(t *testing.T, what string, got api.Big, err api.Errno, want *exact.Int) {
	t.Helper()
	if want.CmpAbs(new(exact.Int).Lsh(exact.NewInt(1), 1200)) >= 0 {
		refused(t, what, got, err, api.ErrFull)
	} else if err != api.OK || value(t, got).Cmp(want) != 0 {
		t.Errorf("%s: %v, error %d, not %v", what, got, err, want)
	}
}

// refused checks an error, with which the result is zero.
func refused(t *testing.T, what string, got api.Big, err, want api.Errno) {
	t.Helper()
	if err != want || got.Sign != 0 || len(got.Digits) > 0 {
		t.Errorf("%s: %v, error %d, not %d", what, got, err, want)
	}
}

// sample returns big integers of all lengths, many of which have digits that are all zeros or all ones.
func sample(r *rand.Rand, n int) []api.Big {
	list := []api.Big{with(0), with(1, 1), with(-1, 1), greatest(), Neg(greatest()), power(1199), power(600), power(599)}
	for len(list) < n {
		digits := make([]int, r.Intn(61))
		for i := range digits {
			digits[i] = []int{0, digit, half, 1, r.Intn(digit + 1), r.Intn(digit + 1), r.Intn(digit + 1)}[r.Intn(7)]
		}
		if m := len(digits); m == 0 {
			list = append(list, with(0))
		} else {
			digits[m-1] = max(1, digits[m-1]>>r.Intn(20))
			list = append(list, with(1-2*r.Intn(2), digits...))
		}
	}
	return list
}

// ints returns ints near the bounds of digits and of ints.
func ints() []int {
	list := []int{math.MinInt, math.MaxInt}
	for _, n := range []uint{0, 1, 2, 19, 20, 21, 31, 39, 40, 41, 52, 59, 60, 61, 62} {
		for d := -1; d <= 1; d++ {
			list = append(list, 1<<n+d, -(1<<n)+d)
		}
	}
	return append(list, math.MaxInt-1, math.MinInt+1, 10, -10, 999999999999, 1000000000000, 123456789)
}

// P4.1

func TestRight(t *testing.T) {
	for _, a := range wrong() {
		if Right(a) || isRight(a) {
			t.Errorf("%v is right", a)
		}
	}
	right := append(sample(rand.New(rand.NewSource(1)), 200), api.Big{}, with(0, []int{}...), with(-1, digit), with(1, 0, 1), with(1, 0, 0, digit))
	for _, a := range right {
		if !Right(a) || !isRight(a) {
			t.Errorf("%v is not right", a)
		}
	}
}

func TestOfIsEachInt(t *testing.T) {
	for _, n := range ints() {
		a := Of(n)
		if value(t, a).Cmp(exact.NewInt(int64(n))) != 0 {
			t.Errorf("Of(%d) is %v", n, a)
		}
		if m, ok := Int(a); !ok || m != n {
			t.Errorf("Int of %d: %d, %v", n, m, ok)
		}
	}
	for n, want := range map[int]api.Big{0: with(0), 1048577: with(1, 1, 1), -1048576: with(-1, 0, 1), math.MinInt: with(-1, 0, 0, 0, 8), math.MaxInt: with(1, digit, digit, digit, 7)} {
		if !Same(Of(n), want) {
			t.Errorf("Of(%d) is %v", n, Of(n))
		}
	}
}

func TestIntOfWhatIsNone(t *testing.T) {
	none := append(wrong(), power(63), with(-1, 1, 0, 0, 8), with(1, 0, 0, 0, 9), with(-1, 0, 0, 0, 9), with(1, 5, 0, 0, 16), with(-1, 5, 0, 0, 16),
		with(1, 7, 0, 0, digit), power(64), Neg(power(64)), power(80), power(127), with(1, 1, 0, 0, 0, 1), greatest(), Neg(greatest()))
	for _, a := range none {
		if n, ok := Int(a); ok || n != 0 {
			t.Errorf("Int of %v: %d, %v", a, n, ok)
		}
	}
	if n, ok := Int(with(-1, 0, 0, 0, 8)); !ok || n != math.MinInt {
		t.Errorf("Int of -2^63: %d, %v", n, ok)
	}
}

func TestCompare(t *testing.T) {
	list := sample(rand.New(rand.NewSource(2)), 120)
	for _, a := range list {
		for _, b := range list {
			if got, want := Compare(a, b), value(t, a).Cmp(value(t, b)); got != want {
				t.Errorf("Compare of %v and %v: %d", a, b, got)
			}
		}
		for _, b := range wrong() {
			if Compare(a, b) != 0 || Compare(b, a) != 0 || Compare(b, b) != 0 {
				t.Errorf("Compare of %v and %v is not 0", a, b)
			}
		}
	}
}

func TestCompareOfNeighbours(t *testing.T) {
	order := []api.Big{with(-1, 0, 1), with(-1, digit), with(-1, 2), with(-1, 1), with(0), with(1, 1), with(1, 2), with(1, digit), with(1, 0, 1), with(1, 1, 1), with(1, 0, 2)}
	for i, a := range order {
		for j, b := range order {
			if got := Compare(a, b); got < 0 != (i < j) || got > 0 != (i > j) || got < -1 || got > 1 {
				t.Errorf("Compare of %v and %v: %d", a, b, got)
			}
		}
	}
}

func TestSame(t *testing.T) {
	all := append(wrong(), sample(rand.New(rand.NewSource(3)), 40)...)
	for _, a := range all {
		for _, b := range all {
			want := a.Sign == b.Sign && len(a.Digits) == len(b.Digits)
			for i := 0; want && i < len(a.Digits); i++ {
				want = a.Digits[i] == b.Digits[i]
			}
			if Same(a, b) != want {
				t.Errorf("Same of %v and %v is not %v", a, b, want)
			}
		}
	}
	if !Same(with(0, []int{}...), api.Big{}) || !Same(with(7, 0, 0), with(7, 0, 0)) || Same(with(7, 0, 0), with(7, 0)) || Same(with(1, 5), with(-1, 5)) {
		t.Error("Same of nil and empty, or of what is not right")
	}
}

func TestNeg(t *testing.T) {
	for _, a := range sample(rand.New(rand.NewSource(4)), 60) {
		if x := value(t, a); value(t, Neg(a)).Cmp(x.Neg(x)) != 0 {
			t.Errorf("Neg of %v: %v", a, Neg(a))
		}
	}
	for _, a := range wrong() {
		refused(t, "Neg", Neg(a), api.OK, api.OK)
	}
}

// P4.2

// operations are those with one result, and what they are in the library.
func operations() map[string]struct {
	f    func(a, b api.Big) (api.Big, api.Errno)
	want func(x, y *exact.Int) *exact.Int
} {
	type row = struct {
		f    func(a, b api.Big) (api.Big, api.Errno)
		want func(x, y *exact.Int) *exact.Int
	}
	return map[string]row{
		"Add": {Add, func(x, y *exact.Int) *exact.Int { return new(exact.Int).Add(x, y) }},
		"Sub": {Sub, func(x, y *exact.Int) *exact.Int { return new(exact.Int).Sub(x, y) }},
		"Mul": {Mul, func(x, y *exact.Int) *exact.Int { return new(exact.Int).Mul(x, y) }},
		"Gcd": {Gcd, func(x, y *exact.Int) *exact.Int {
			return new(exact.Int).GCD(nil, nil, new(exact.Int).Abs(x), new(exact.Int).Abs(y))
		}},
	}
}

// floored returns the quotient and the remainder, as the definition has them.
func floored(x, y *exact.Int) (*exact.Int, *exact.Int) {
	q, r := new(exact.Int).QuoRem(x, y, new(exact.Int))
	if r.Sign()*y.Sign() < 0 {
		q.Sub(q, exact.NewInt(1))
		r.Add(r, y)
	}
	return q, r
}

// checkAll checks all operations for two right big integers.
func checkAll(t *testing.T, a, b api.Big) {
	t.Helper()
	x, y := value(t, a), value(t, b)
	for name, op := range operations() {
		got, err := op.f(a, b)
		expect(t, name+" of "+x.String()+" and "+y.String(), got, err, op.want(x, y))
	}
	q, r, err := Div(a, b)
	if b.Sign == 0 {
		refused(t, "Div by 0", q, err, api.ErrDivide)
		refused(t, "Div by 0", r, err, api.ErrDivide)
		return
	}
	wantQ, wantR := floored(x, y)
	expect(t, "quotient of "+x.String()+" and "+y.String(), q, err, wantQ)
	expect(t, "remainder of "+x.String()+" and "+y.String(), r, err, wantR)
}

func TestOperations(t *testing.T) {
	list := sample(rand.New(rand.NewSource(5)), 90)
	for _, a := range list {
		for _, b := range list {
			checkAll(t, a, b)
		}
	}
}

func TestOperationsOfWhatIsNotRight(t *testing.T) {
	right := []api.Big{with(0), with(1, 1), with(-1, 7, 7), greatest()}
	for _, a := range wrong() {
		for _, b := range append(wrong(), right...) {
			for name, op := range operations() {
				got, err := op.f(a, b)
				refused(t, name, got, err, api.ErrArg)
				got, err = op.f(b, a)
				refused(t, name, got, err, api.ErrArg)
			}
			q, r, err := Div(a, b) // also by 0
			refused(t, "Div", q, err, api.ErrArg)
			refused(t, "Div", r, err, api.ErrArg)
			q, r, err = Div(b, a)
			refused(t, "Div", q, err, api.ErrArg)
			refused(t, "Div", r, err, api.ErrArg)
		}
	}
}

func TestFull(t *testing.T) {
	for _, c := range []struct {
		name string
		a, b api.Big
		want api.Errno
	}{
		{"Add", greatest(), Of(1), api.ErrFull},
		{"Add", greatest(), Of(0), api.OK},
		{"Add", Of(-1), Neg(greatest()), api.ErrFull},
		{"Add", greatest(), Neg(greatest()), api.OK},
		{"Add", power(1199), power(1199), api.ErrFull},
		{"Add", power(1199), power(1198), api.OK},
		{"Sub", Neg(greatest()), Of(1), api.ErrFull},
		{"Sub", Of(0), greatest(), api.OK},
		{"Sub", Neg(power(1199)), power(1199), api.ErrFull},
		{"Sub", greatest(), greatest(), api.OK},
		{"Mul", power(600), power(600), api.ErrFull},
		{"Mul", Neg(power(600)), power(600), api.ErrFull},
		{"Mul", power(600), power(599), api.OK},
		{"Mul", with(1, many(digit, 30)...), with(-1, many(digit, 30)...), api.OK},
		{"Mul", greatest(), Of(-1), api.OK},
		{"Mul", greatest(), Of(2), api.ErrFull},
		{"Mul", greatest(), greatest(), api.ErrFull},
		{"Mul", greatest(), Of(0), api.OK},
		{"Gcd", greatest(), greatest(), api.OK},
		{"Gcd", Of(0), Neg(greatest()), api.OK},
	} {
		got, err := operations()[c.name].f(c.a, c.b)
		if err != c.want {
			t.Errorf("%s of %v and %v: error %d, not %d", c.name, c.a, c.b, err, c.want)
		} else {
			expect(t, c.name, got, err, operations()[c.name].want(value(t, c.a), value(t, c.b)))
		}
	}
}

// TestDivOfHardCases divides numbers of which a first guess of a digit of the quotient is too great, or would be
// more than a digit.
func TestDivOfHardCases(t *testing.T) {
	for _, c := range [][2][]int{
		{{0, 0, half, 2}, {digit, 0, half}},
		{{0, 0, 0, 0, 1}, {digit, 0, half}},
		{{0, 0, digit - 1, half}, {digit, digit, half}},
		{{0, 0, 0, half}, {digit, 0, half}},
		{{digit, digit, digit - 1, half}, {digit, digit, half}},
		{{0, digit, half - 1, half}, {0, 0, half}},
		{{0, 0, 0, 3, 1}, {digit, digit, 3, 1}},
		{many(digit, 60), many(digit, 30)},
		{many(digit, 60), append(many(0, 30), 1)},
		{append(many(0, 59), 1), many(digit, 29)},
		{append(many(0, 59), 1), append(many(digit, 28), half)},
		{{1, 0, 0, 0, 1}, {0, 0, 0, 0, 1}},
		{{0, 0, 0, 0, 1}, {1, 0, 0, 0, 1}},
	} {
		a := with(1, c[0]...)
		for _, b := range []api.Big{with(1, c[1]...), with(-1, c[1]...)} {
			checkAll(t, a, b)
			checkAll(t, Neg(a), b)
			checkAll(t, b, a)
		}
	}
}

// TestDivNearMultiples divides numbers just below, at and above multiples of the divisor.
func TestDivNearMultiples(t *testing.T) {
	r := rand.New(rand.NewSource(6))
	for _, b := range sample(r, 150) {
		for _, q := range sample(r, 12) {
			a, err := Mul(q, b)
			if b.Sign == 0 || err != api.OK {
				continue
			}
			for d := -1; d <= 1; d++ {
				if c, err := Add(a, Of(d)); err == api.OK {
					checkAll(t, c, b)
				}
			}
		}
	}
}

// TestGcdOfMultiples finds common divisors of all lengths, also after the longest ways.
func TestGcdOfMultiples(t *testing.T) {
	r := rand.New(rand.NewSource(7))
	for _, g := range sample(r, 100) {
		for range 5 {
			pair := sample(r, 10)[8:]
			a, err1 := Mul(g, pair[0])
			b, err2 := Mul(g, pair[1])
			if err1 == api.OK && err2 == api.OK {
				checkAll(t, a, b)
			}
		}
	}
	a, b := Of(0), Of(1)
	for c, err := Add(a, b); err == api.OK; c, err = Add(a, b) {
		a, b = b, c
		checkAll(t, a, b)
		twice, err2 := Mul(b, Of(2))
		if err2 == api.OK {
			checkAll(t, twice, b)
		}
	}
}

func TestExamples(t *testing.T) {
	for _, c := range [][4]int{{-7, 2, -4, 1}, {7, -2, -4, -1}, {-7, -2, 3, -1}, {7, 2, 3, 1}, {6, -2, -3, 0}, {0, -2, 0, 0}, {1, -2, -1, -1}, {-1, 2, -1, 1}} {
		q, r, err := Div(Of(c[0]), Of(c[1]))
		if err != api.OK || !Same(q, Of(c[2])) || !Same(r, Of(c[3])) {
			t.Errorf("Div of %d and %d: %s and %s", c[0], c[1], Text(q), Text(r))
		}
	}
	for _, c := range [][3]int{{-12, 18, 6}, {0, -5, 5}, {0, 0, 0}, {-5, 0, 5}, {-4, -6, 2}, {1, 0, 1}} {
		if g, err := Gcd(Of(c[0]), Of(c[1])); err != api.OK || !Same(g, Of(c[2])) {
			t.Errorf("Gcd of %d and %d: %s", c[0], c[1], Text(g))
		}
	}
	if p, err := Mul(Of(-99999999999), Of(99999999999)); err != api.OK || Text(p) != "-9999999999800000000001" {
		t.Errorf("%q", Text(p))
	}
}

// P4.3

func TestText(t *testing.T) {
	for _, a := range sample(rand.New(rand.NewSource(8)), 400) {
		if got, want := Text(a), value(t, a).String(); got != want {
			t.Errorf("Text of %v: %q, not %q", a, got, want)
		}
	}
	for _, a := range wrong() {
		if got := Text(a); got != "" {
			t.Errorf("Text of %v: %q", a, got)
		}
	}
	// Zeros inside, and lengths around those of the parts that are written at once.
	x := exact.NewInt(1)
	for n := range 361 {
		a, err := Read(x.String())
		expect(t, "Read", a, err, x)
		if got := Text(a); got != "1"+strings.Repeat("0", n) {
			t.Errorf("Text of 10^%d: %q", n, got)
		}
		b, err := Sub(Of(1), a)
		if want := "-" + strings.Repeat("9", n); n > 0 && (err != api.OK || Text(b) != want) {
			t.Errorf("Text of 1 - 10^%d: %q", n, Text(b))
		}
		x.Mul(x, exact.NewInt(10))
	}
}

func TestReadOfWhatIsNoNumber(t *testing.T) {
	long := strings.Repeat("7", 2000)
	for _, s := range []string{
		"007", "-0", "", "-", "00", "-00", "01", "-01", "+1", "--1", "1-", " 1", "1 ", "1.0", "1e3", "0x1", "1_000", "a", "-a", "12a", "\x00", "1\x00", "/", ":", "1/", "1:", "١",
		"−1", long + "x", "0" + long, "-0" + long, "-" + long + "-", "x" + long,
	} {
		a, err := Read(s)
		refused(t, "Read of "+s, a, err, api.ErrForm)
	}
}

func TestReadFull(t *testing.T) {
	limit := new(exact.Int).Lsh(exact.NewInt(1), 1200)
	for d := int64(-3); d <= 3; d++ {
		x := new(exact.Int).Add(limit, exact.NewInt(d))
		a, err := Read(x.String())
		expect(t, "Read near 2^1200", a, err, x)
		x.Neg(x)
		a, err = Read(x.String())
		expect(t, "Read near -2^1200", a, err, x)
	}
	for n := 350; n < 380; n++ {
		for _, s := range []string{strings.Repeat("9", n), "1" + strings.Repeat("0", n-1)} {
			x, _ := new(exact.Int).SetString(s, 10)
			a, err := Read(s)
			expect(t, "Read of "+s, a, err, x)
			a, err = Read("-" + s)
			expect(t, "Read of -"+s, a, err, x.Neg(x))
		}
	}
	a, err := Read(strings.Repeat("8", 1<<20))
	refused(t, "Read of a long number", a, err, api.ErrFull)
}

func TestReadOfNumbers(t *testing.T) {
	for _, n := range ints() {
		x := exact.NewInt(int64(n))
		a, err := Read(x.String())
		expect(t, "Read of "+x.String(), a, err, x)
	}
	for s, want := range map[string]api.Big{"0": with(0), "-1": with(-1, 1), "1048576": with(1, 0, 1), "-1048575": with(-1, digit), "1099511627776": with(1, 0, 0, 1)} {
		if a, err := Read(s); err != api.OK || !Same(a, want) {
			t.Errorf("Read of %s: %v, error %d", s, a, err)
		}
	}
}

// P4.4

// spoil overwrites all memory of a result.
func spoil(list ...api.Big) {
	for _, a := range list {
		for i := range a.Digits[:cap(a.Digits)] {
			a.Digits[:cap(a.Digits)][i] = -77
		}
	}
}

func TestResultsShareNoMemory(t *testing.T) {
	list := append(sample(rand.New(rand.NewSource(9)), 40), Of(6), Of(-4), with(1, 0, 0, 1), with(0, []int{}...))
	for _, a := range list {
		for _, b := range append(list, a) {
			// More room than the digits take would show if a result were appended to an argument.
			x, y := with(a.Sign, slices.Grow(slices.Clone(a.Digits), 9)...), with(b.Sign, slices.Grow(slices.Clone(b.Digits), 9)...)
			for name, op := range operations() {
				first, _ := op.f(x, y)
				keep := with(first.Sign, slices.Clone(first.Digits)...)
				second, _ := op.f(x, y)
				spoil(second)
				if !Same(x, a) || !Same(y, b) || !Same(first, keep) {
					t.Fatalf("%s of %v and %v shares memory", name, a, b)
				}
			}
			q, r, _ := Div(x, y)
			keep := with(r.Sign, slices.Clone(r.Digits)...)
			spoil(q, Neg(x))
			if !Same(r, keep) || !Same(x, a) || !Same(y, b) {
				t.Fatalf("the quotient of %v and %v shares memory", a, b)
			}
			spoil(r)
			if !Same(x, a) || !Same(y, b) {
				t.Fatalf("the remainder of %v and %v shares memory", a, b)
			}
		}
	}
}

func TestArgumentsStay(t *testing.T) {
	for _, a := range append(wrong(), greatest(), Of(-7)) {
		for _, b := range append(wrong(), power(90), Of(5)) {
			x, y := with(a.Sign, slices.Clone(a.Digits)...), with(b.Sign, slices.Clone(b.Digits)...)
			for _, op := range operations() {
				op.f(x, y)
			}
			Div(x, y)
			Compare(x, y)
			Same(x, y)
			Right(x)
			Int(x)
			Text(x)
			Neg(x)
			if !Same(x, a) || !Same(y, b) {
				t.Fatalf("%v or %v was changed", a, b)
			}
		}
	}
	spoil(Of(5))
	if !Same(Of(5), with(1, 5)) {
		t.Error("results of Of share memory")
	}
}

// P4.5

// calls returns a function that passes results on, and notes in ok whether one of them came with an error.
func calls(ok *bool) func(a api.Big, err api.Errno) api.Big {
	return func(a api.Big, err api.Errno) api.Big {
		*ok = *ok && err == api.OK
		return a
	}
}

func TestRing(t *testing.T) {
	r := rand.New(rand.NewSource(10))
	list := append(sample(r, 40), Of(1), Of(-1), Of(2), Of(digit), Of(-half))
	checked := 0
	for range 20000 {
		a, b, c := list[r.Intn(len(list))], list[r.Intn(len(list))], list[r.Intn(len(list))]
		ok := true
		of := calls(&ok)
		laws := [][2]api.Big{
			{of(Add(a, b)), of(Add(b, a))},
			{of(Mul(a, b)), of(Mul(b, a))},
			{of(Add(of(Add(a, b)), c)), of(Add(a, of(Add(b, c))))},
			{of(Mul(of(Mul(a, b)), c)), of(Mul(a, of(Mul(b, c))))},
			{of(Mul(a, of(Add(b, c)))), of(Add(of(Mul(a, b)), of(Mul(a, c))))},
			{of(Add(of(Sub(a, b)), b)), a},
			{of(Add(a, Of(0))), a},
			{of(Mul(a, Of(1))), a},
			{of(Add(a, Neg(a))), Of(0)},
			{of(Sub(a, b)), of(Add(a, Neg(b)))},
		}
		sums, products, difference := [2]api.Big{of(Add(a, c)), of(Add(b, c))}, [2]api.Big{of(Mul(a, c)), of(Mul(b, c))}, of(Sub(a, b))
		if !ok {
			continue
		}
		checked++
		for i, l := range laws {
			if !Same(l[0], l[1]) {
				t.Fatalf("law %d does not hold for %v, %v, %v", i, a, b, c)
			}
		}
		if Compare(sums[0], sums[1]) != Compare(a, b) || Compare(products[0], products[1]) != Compare(a, b)*c.Sign {
			t.Fatalf("the order does not hold for %v, %v, %v", a, b, c)
		}
		if Compare(a, b) != Compare(difference, Of(0)) || Compare(a, b) != -Compare(b, a) {
			t.Fatalf("the order of %v and %v is not that of the difference", a, b)
		}
	}
	if checked < 2000 {
		t.Error("only", checked, "triples were checked")
	}
}

// P4.6

func TestQuotients(t *testing.T) {
	list := sample(rand.New(rand.NewSource(11)), 100)
	for _, a := range list {
		for _, b := range list {
			q, r, err := Div(a, b)
			if b.Sign == 0 {
				continue
			}
			// The product alone may be too great for Mul.
			back := new(exact.Int).Mul(value(t, q), value(t, b))
			back.Add(back, value(t, r))
			if err != api.OK || back.Cmp(value(t, a)) != 0 || r.Sign != 0 && r.Sign != b.Sign || value(t, r).CmpAbs(value(t, b)) >= 0 {
				t.Fatalf("Div of %v and %v: %v and %v", a, b, q, r)
			}
		}
	}
}

func TestDivisors(t *testing.T) {
	list := append(sample(rand.New(rand.NewSource(12)), 80), Of(12), Of(-18), power(40), power(60), with(1, 0, 6, 9))
	for _, a := range list {
		for _, b := range list {
			ok := true
			of := calls(&ok)
			g := of(Gcd(a, b))
			same := []api.Big{of(Gcd(b, a)), of(Gcd(a, Neg(b))), of(Gcd(Neg(a), b))}
			if a.Sign != 0 {
				_, r, _ := Div(b, a)
				same = append(same, of(Gcd(a, r)))
			}
			for _, h := range same {
				if !ok || !Same(h, g) || h.Sign < 0 {
					t.Fatalf("Gcd of %v and %v: %v, and %v", a, b, g, h)
				}
			}
			for _, c := range []api.Big{a, b} {
				if _, r, err := Div(c, g); g.Sign != 0 && (err != api.OK || r.Sign != 0) {
					t.Fatalf("Gcd of %v and %v does not divide: %v", a, b, g)
				}
			}
			if g.Sign == 0 && (a.Sign != 0 || b.Sign != 0) {
				t.Fatalf("Gcd of %v and %v is 0", a, b)
			}
		}
	}
}

// P4.7

func TestReadOfText(t *testing.T) {
	for _, a := range sample(rand.New(rand.NewSource(13)), 1000) {
		if b, err := Read(Text(a)); err != api.OK || !Same(a, b) {
			t.Errorf("%v was read as %v, error %d", a, b, err)
		}
	}
}

func TestSmallInts(t *testing.T) {
	for a := -40; a <= 40; a++ {
		for b := -40; b <= 40; b++ {
			checkInts(t, a, b)
		}
	}
	for _, a := range ints() {
		for _, b := range ints() {
			checkInts(t, a, b)
		}
	}
}

// checkInts compares the operations with those of ints, as far as these do not overflow.
func checkInts(t *testing.T, a, b int) {
	t.Helper()
	x, y := exact.NewInt(int64(a)), exact.NewInt(int64(b))
	expectInt := func(name string, got api.Big, err api.Errno, want int, fits bool) {
		if n, ok := Int(got); err != api.OK || ok != fits || fits && n != want {
			t.Errorf("%s of %d and %d: %v, error %d", name, a, b, got, err)
		}
	}
	sum, err := Add(Of(a), Of(b))
	expectInt("Add", sum, err, a+b, new(exact.Int).Add(x, y).IsInt64())
	difference, err := Sub(Of(a), Of(b))
	expectInt("Sub", difference, err, a-b, new(exact.Int).Sub(x, y).IsInt64())
	product, err := Mul(Of(a), Of(b))
	expectInt("Mul", product, err, a*b, new(exact.Int).Mul(x, y).IsInt64())
	if b != 0 {
		q, r := a/b, a%b
		if r != 0 && (r < 0) != (b < 0) {
			q, r = q-1, r+b
		}
		quotient, rest, err := Div(Of(a), Of(b))
		expectInt("Div", quotient, err, q, !(a == math.MinInt && b == -1))
		expectInt("remainder", rest, err, r, true)
	}
	if (Compare(Of(a), Of(b)) < 0) != (a < b) || (Compare(Of(a), Of(b)) > 0) != (a > b) || Same(Of(a), Of(b)) != (a == b) {
		t.Errorf("Compare of %d and %d", a, b)
	}
	if a != math.MinInt && !Same(Neg(Of(a)), Of(-a)) {
		t.Errorf("Neg of %d", a)
	}
}
