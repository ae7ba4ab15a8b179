package lp

import (
	"math/big"
	"math/rand"
	"slices"
	"strings"

	"tonneau/api"
	"tonneau/frac"
)

// The functions of this file are the chapter, word for word, with the rational numbers of the library, and what the
// tests make programs with.

// rational returns a text's rational number.
func rational(s string) *big.Rat {
	x, ok := new(big.Rat).SetString(s)
	if !ok {
		panic(s)
	}
	return x
}

// power returns a power of a number as a text.
func power(n, exponent int64) string {
	return new(big.Int).Exp(big.NewInt(n), big.NewInt(exponent), nil).String()
}

// greatest is the greatest integer that has room, less a number.
func greatest(less int64) string {
	x := new(big.Int).Lsh(big.NewInt(1), 1200)
	return x.Sub(x, big.NewInt(1+less)).String()
}

// ours returns a rational number as a right fraction.
func ours(x *big.Rat) api.Frac { return api.Frac{P: digits(x.Num()), Q: digits(x.Denom())} }

// digits returns an integer as one of layer 4.
func digits(x *big.Int) api.Big {
	room(x)
	a := api.Big{Sign: x.Sign()}
	for rest := new(big.Int).Abs(x); rest.Sign() > 0; rest.Rsh(rest, 20) {
		a.Digits = append(a.Digits, int(rest.Bits()[0]&1048575))
	}
	return a
}

// of returns a text's fraction.
func of(s string) api.Frac { return ours(rational(s)) }

// theirs returns a right fraction as a rational number.
func theirs(f api.Frac) *big.Rat { return new(big.Rat).SetFrac(whole(f.P), whole(f.Q)) }

// whole returns an integer of layer 4 as one of the library.
func whole(a api.Big) *big.Int {
	x := new(big.Int)
	for _, d := range slices.Backward(a.Digits) {
		x.Add(x.Lsh(x, 20), big.NewInt(int64(d)))
	}
	return x.Mul(x, big.NewInt(int64(a.Sign)))
}

// list returns the fractions of a text of numbers with blanks between.
func list(s string) []api.Frac {
	var l []api.Frac
	for word := range strings.FieldsSeq(s) {
		l = append(l, of(word))
	}
	return l
}

// program returns the program of a text: "1 1: 1 2 = 4; 3 1 = 6" is the greatest x + y with two rows.
func program(s string) api.Program {
	goal, rest, _ := strings.Cut(s, ":")
	p := api.Program{Goal: list(goal)}
	for part := range strings.SplitSeq(rest, ";") {
		if left, right, ok := strings.Cut(part, "="); ok {
			p.Rows = append(p.Rows, api.Row{A: list(left), Value: of(strings.TrimSpace(right))})
		}
	}
	return p
}

// texts returns the texts of fractions.
func texts(l []api.Frac) string {
	var s []string
	for _, f := range l {
		s = append(s, strings.TrimSuffix(frac.Text(f), "/1"))
	}
	return strings.Join(s, " ")
}

// written returns the text of a program, for messages.
func written(p api.Program) string {
	var s []string
	for _, row := range p.Rows {
		s = append(s, texts(row.A)+" = "+texts([]api.Frac{row.Value}))
	}
	return texts(p.Goal) + ": " + strings.Join(s, "; ")
}

// full is the panic of the model where there is no room.
type full struct{}

// room panics if there is no room for an integer.
func room(x *big.Int) *big.Int {
	if x.BitLen() > 1200 {
		panic(full{})
	}
	return x
}

// product, quotient, plus and minus form the integers of frac, and look at each of them.
func product(a, b *big.Rat) *big.Rat {
	return new(big.Rat).SetFrac(times(a.Num(), b.Num()), times(a.Denom(), b.Denom()))
}

func quotient(a, b *big.Rat) *big.Rat {
	return new(big.Rat).SetFrac(times(a.Num(), b.Denom()), times(a.Denom(), b.Num()))
}

func plus(a, b *big.Rat) *big.Rat {
	x, y := times(a.Num(), b.Denom()), times(b.Num(), a.Denom())
	return new(big.Rat).SetFrac(room(x.Add(x, y)), times(a.Denom(), b.Denom()))
}

func minus(a, b *big.Rat) *big.Rat { return plus(a, new(big.Rat).Neg(b)) }

func times(x, y *big.Int) *big.Int { return room(new(big.Int).Mul(x, y)) }

// fails reports whether a calculation has no room.
func fails(calculation func()) (failed bool) {
	defer func() {
		if r := recover(); r != nil {
			_, failed = r.(full)
			if !failed {
				panic(r)
			}
		}
	}()
	calculation()
	return false
}

// model is a dictionary by variables, not by places: v of each basic one, a of each basic one and each other one, c of
// each other one.
type model struct {
	v map[int]*big.Rat
	a map[int]map[int]*big.Rat
	c map[int]*big.Rat
}

// atFirst returns the first dictionary of a program, with all of its goal multiplied by 0 or 1.
func atFirst(p api.Program, factor int64) *model {
	m := &model{map[int]*big.Rat{}, map[int]map[int]*big.Rat{}, map[int]*big.Rat{}}
	n := len(p.Goal)
	for j, goal := range p.Goal {
		m.c[j] = product(theirs(goal), big.NewRat(factor, 1))
	}
	for i, row := range p.Rows {
		m.v[n+i] = theirs(row.Value)
		m.a[n+i] = map[int]*big.Rat{}
		for j, f := range row.A {
			m.a[n+i][j] = theirs(f)
		}
	}
	return m
}

// leastOf returns the least variable of those whose numbers have a sign; -1, if there is none.
func leastOf(numbers map[int]*big.Rat, sign int) int {
	found := -1
	for variable, x := range numbers {
		if x.Sign() == sign && (found < 0 || variable < found) {
			found = variable
		}
	}
	return found
}

// exchange exchanges the basic variable r and the other one s.
func (m *model) exchange(r, s int) {
	p, row := m.a[r][s], m.a[r]
	value := quotient(m.v[r], p)
	delete(row, s)
	for j := range row {
		row[j] = quotient(row[j], p)
	}
	row[r] = quotient(big.NewRat(1, 1), p)
	delete(m.v, r)
	delete(m.a, r)
	for i, other := range m.a {
		f := other[s]
		delete(other, s)
		m.v[i] = minus(m.v[i], product(f, value))
		exchangeIn(other, row, f, r)
	}
	f := m.c[s]
	delete(m.c, s)
	exchangeIn(m.c, row, f, r)
	m.v[s], m.a[s] = value, row
}

// exchangeIn takes the new row f times from another one, or from c, in which r is new.
func exchangeIn(other, row map[int]*big.Rat, f *big.Rat, r int) {
	for j := range row {
		if j == r {
			other[j] = minus(new(big.Rat), product(f, row[j]))
		} else {
			other[j] = minus(other[j], product(f, row[j]))
		}
	}
}

// search goes on as long as it can, and returns an error for how it ends, and the variable with which it does.
func (m *model) search() (int, api.Errno) {
	for {
		r, s := leastOf(m.v, -1), leastOf(m.c, 1)
		switch {
		case r < 0 && s < 0:
			return 0, api.OK
		case s < 0 || 0 <= r && r < s:
			s = leastOf(m.a[r], -1)
			if s < 0 {
				return r, api.ErrNone
			}
		default:
			column := map[int]*big.Rat{}
			for i := range m.a {
				column[i] = m.a[i][s]
			}
			r = leastOf(column, 1)
			if r < 0 {
				return s, api.ErrRange
			}
		}
		m.exchange(r, s)
	}
}

// outcome is what Solve should return for a program; lists as texts.
type outcome struct {
	x, y string
	e    api.Errno
}

// wanted returns what the model says.
func wanted(p api.Program) outcome {
	o := outcome{e: api.ErrFull}
	fails(func() {
		m := atFirst(p, 0)
		end, e := m.search()
		if e != api.ErrNone {
			m = atFirst(p, 1)
			end, e = m.search()
		}
		o = m.told(len(p.Goal), len(p.Rows), end, e)
	})
	return o
}

// told returns what Solve makes of the end of a search.
func (m *model) told(n, rows, end int, e api.Errno) outcome {
	at := func(variable int) *big.Rat {
		switch {
		case e == api.OK && variable < n && m.v[variable] != nil:
			return m.v[variable]
		case e == api.OK && variable >= n && m.c[variable] != nil:
			return new(big.Rat).Neg(m.c[variable])
		case e != api.OK && variable == end:
			return big.NewRat(1, 1)
		case e == api.ErrNone && m.a[end][variable] != nil:
			return m.a[end][variable]
		case e == api.ErrRange && m.a[variable] != nil:
			return new(big.Rat).Neg(m.a[variable][end])
		}
		return new(big.Rat)
	}
	var x, y []api.Frac
	for variable := range n + rows {
		if variable < n && e != api.ErrNone {
			x = append(x, ours(at(variable)))
		}
		if variable >= n && e != api.ErrRange {
			y = append(y, ours(at(variable)))
		}
	}
	return outcome{texts(x), texts(y), e}
}

// rationals returns fractions as rational numbers.
func rationals(l []api.Frac) []*big.Rat {
	var out []*big.Rat
	for _, f := range l {
		out = append(out, theirs(f))
	}
	return out
}

// added returns the sum of the products of two lists, from the left, with room for it or not.
func added(a, x []*big.Rat) *big.Rat {
	total := new(big.Rat)
	for i := range a {
		total = plus(total, product(a[i], x[i]))
	}
	return total
}

// dot returns the sum of the products of two lists, without any bounds.
func dot(a, x []*big.Rat) *big.Rat {
	total := new(big.Rat)
	for i := range a {
		total.Add(total, new(big.Rat).Mul(a[i], x[i]))
	}
	return total
}

// columnOf returns a column of a program, and valuesOf its Values.
func columnOf(p api.Program, j int) []*big.Rat {
	var l []*big.Rat
	for _, row := range p.Rows {
		l = append(l, theirs(row.A[j]))
	}
	return l
}

func valuesOf(p api.Program) []*big.Rat {
	var l []*big.Rat
	for _, row := range p.Rows {
		l = append(l, theirs(row.Value))
	}
	return l
}

// hasNegative reports whether one of some numbers is negative.
func hasNegative(l []*big.Rat) bool {
	return slices.ContainsFunc(l, func(x *big.Rat) bool { return x.Sign() < 0 })
}

// checks is what Check should find for a right program and lists of right fractions.
func checks(p api.Program, listX, listY []api.Frac, e api.Errno) bool {
	x, y := rationals(listX), rationals(listY)
	ok := false
	fails(func() {
		switch e {
		case api.OK:
			ok = areBoth(p, x, y)
		case api.ErrNone:
			ok = len(x) == 0 && areProof(p, y)
		case api.ErrRange:
			ok = len(y) == 0 && areRay(p, x)
		}
	})
	return ok
}

// areBoth is the line of OK.
func areBoth(p api.Program, x, y []*big.Rat) bool {
	if len(x) != len(p.Goal) || len(y) != len(p.Rows) || hasNegative(x) || hasNegative(y) {
		return false
	}
	good := true
	for _, row := range p.Rows {
		good = added(rationals(row.A), x).Cmp(theirs(row.Value)) <= 0 && good
	}
	for j, goal := range p.Goal {
		good = added(y, columnOf(p, j)).Cmp(theirs(goal)) >= 0 && good
	}
	return added(y, valuesOf(p)).Cmp(added(rationals(p.Goal), x)) == 0 && good
}

// areProof is the line of ErrNone.
func areProof(p api.Program, y []*big.Rat) bool {
	if len(y) != len(p.Rows) || hasNegative(y) {
		return false
	}
	good := added(y, valuesOf(p)).Sign() < 0
	for j := range p.Goal {
		good = added(y, columnOf(p, j)).Sign() >= 0 && good
	}
	return good
}

// areRay is the line of ErrRange.
func areRay(p api.Program, x []*big.Rat) bool {
	if len(x) != len(p.Goal) || hasNegative(x) {
		return false
	}
	good := added(rationals(p.Goal), x).Sign() > 0
	for _, row := range p.Rows {
		good = added(rationals(row.A), x).Sign() <= 0 && good
	}
	return good
}

// element returns a random fraction, with integers of up to so many bits; often 0 or small.
func element(r *rand.Rand, bits int) api.Frac {
	switch r.Intn(6) {
	case 0, 1:
		return of("0")
	case 2, 3:
		return ours(big.NewRat(int64(r.Intn(7)-3), int64(1+r.Intn(3))))
	}
	bound := new(big.Int).Lsh(big.NewInt(1), uint(1+r.Intn(bits)))
	p, q := new(big.Int).Rand(r, bound), new(big.Int).Rand(r, bound)
	if r.Intn(2) == 0 {
		p.Neg(p)
	}
	switch {
	case q.Sign() == 0 || r.Intn(3) == 0:
		q.SetInt64(1)
	case r.Intn(3) == 0:
		p.SetInt64(int64(p.Sign()))
	}
	return ours(new(big.Rat).SetFrac(p, q))
}

// random returns a random program with so many columns and rows, most of whose Values are positive or 0.
func random(r *rand.Rand, n, m, bits int) api.Program {
	var p api.Program
	for range n {
		p.Goal = append(p.Goal, element(r, bits))
	}
	for range m {
		row := api.Row{Value: element(r, bits)}
		if r.Intn(3) > 0 {
			row.Value.P.Sign *= row.Value.P.Sign
		}
		for range n {
			row.A = append(row.A, element(r, bits))
		}
		p.Rows = append(p.Rows, row)
	}
	return p
}

// deep returns a copy of a program that shares nothing.
func deep(p api.Program) api.Program {
	c := api.Program{Goal: deepList(p.Goal)}
	for _, row := range p.Rows {
		value := deepList([]api.Frac{row.Value})
		c.Rows = append(c.Rows, api.Row{A: deepList(row.A), Value: value[0]})
	}
	return c
}

func deepList(l []api.Frac) []api.Frac {
	var copies []api.Frac
	for _, f := range l {
		f.P.Digits, f.Q.Digits = slices.Clone(f.P.Digits), slices.Clone(f.Q.Digits)
		copies = append(copies, f)
	}
	return copies
}
