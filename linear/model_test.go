package linear

import (
	"math/big"
	"math/rand"
	"slices"
	"strings"
	"testing"

	"tonneau/api"
	"tonneau/frac"
)

// The functions of this file are the chapter, word for word, with the rational numbers of the library, and what the
// tests make systems with.

// pure returns a text's rational number.
func pure(s string) *big.Rat {
	x, ok := new(big.Rat).SetString(s)
	if !ok {
		panic(s)
	}
	return x
}

// power returns a power of a number as a text.
func power(n, exponent int64) string {
	return new(big.Int).Exp(big.NewInt(n), big.NewInt(exponent), nil).String()
}

// greatest is the greatest integer that has room.
func greatest() string {
	x := new(big.Int).Lsh(big.NewInt(1), 1200)
	return x.Sub(x, big.NewInt(1)).String()
}

// ours returns a rational number as a right fraction.
func ours(x *big.Rat) api.Frac { return api.Frac{P: digits(x.Num()), Q: digits(x.Denom())} }

// digits returns an integer as one of layer 4.
func digits(x *big.Int) api.Big {
	room(x)
	a := api.Big{Sign: x.Sign()}
	for rest := new(big.Int).Abs(x); rest.Sign() > 0; rest.Rsh(rest, 20) {
		a.Digits = append(a.Digits, int(rest.Bits()[0]&1048575))
	}
	return a
}

// of returns a text's fraction.
func of(s string) api.Frac { return ours(pure(s)) }

// theirs returns a right fraction as a rational number.
func theirs(f api.Frac) *big.Rat { return new(big.Rat).SetFrac(whole(f.P), whole(f.Q)) }

// whole returns an integer of layer 4 as one of the library.
func whole(a api.Big) *big.Int {
	x := new(big.Int)
	for _, d := range slices.Backward(a.Digits) {
		x.Add(x.Lsh(x, 20), big.NewInt(int64(d)))
	}
	return x.Mul(x, big.NewInt(int64(a.Sign)))
}

// same reports whether two fractions are equal, right or not.
func same(a, b api.Frac) bool {
	return a.P.Sign == b.P.Sign && a.Q.Sign == b.Q.Sign && slices.Equal(a.P.Digits, b.P.Digits) && slices.Equal(a.Q.Digits, b.Q.Digits)
}

// list returns the fractions of a text of numbers with blanks between.
func list(s string) []api.Frac {
	var l []api.Frac
	for _, word := range strings.Fields(s) {
		l = append(l, of(word))
	}
	return l
}

// system returns the rows of a text: "1 2 = 3; 4 5 = 6".
func system(s string) []api.Row {
	var rows []api.Row
	for part := range strings.SplitSeq(s, ";") {
		if left, right, ok := strings.Cut(part, "="); ok {
			rows = append(rows, api.Row{A: list(left), Value: of(strings.TrimSpace(right))})
		}
	}
	return rows
}

// texts returns the texts of fractions.
func texts(l []api.Frac) string {
	var s []string
	for _, f := range l {
		s = append(s, strings.TrimSuffix(frac.Text(f), "/1"))
	}
	return strings.Join(s, " ")
}

// written returns the text of a system, for messages.
func written(rows []api.Row) string {
	var s []string
	for _, row := range rows {
		s = append(s, texts(row.A)+" = "+texts([]api.Frac{row.Value}))
	}
	return strings.Join(s, "; ")
}

// full is the panic of the model where there is no room.
type full struct{}

// room panics if there is no room for an integer.
func room(x *big.Int) *big.Int {
	if x.BitLen() > 1200 {
		panic(full{})
	}
	return x
}

// product, quotient, sum and difference form the integers of frac, and look at each of them.
func product(a, b *big.Rat) *big.Rat {
	return new(big.Rat).SetFrac(times(a.Num(), b.Num()), times(a.Denom(), b.Denom()))
}

func quotient(a, b *big.Rat) *big.Rat {
	return new(big.Rat).SetFrac(times(a.Num(), b.Denom()), times(a.Denom(), b.Num()))
}

func sum(a, b *big.Rat) *big.Rat {
	x, y := times(a.Num(), b.Denom()), times(b.Num(), a.Denom())
	return new(big.Rat).SetFrac(room(x.Add(x, y)), times(a.Denom(), b.Denom()))
}

func difference(a, b *big.Rat) *big.Rat { return sum(a, new(big.Rat).Neg(b)) }

func times(x, y *big.Int) *big.Int { return room(new(big.Int).Mul(x, y)) }

// fails reports whether a calculation has no room.
func fails(calculation func()) (failed bool) {
	defer func() {
		if r := recover(); r != nil {
			_, failed = r.(full)
			if !failed {
				panic(r)
			}
		}
	}()
	calculation()
	return false
}

// model is the elimination of a system, as far as it went.
type model struct {
	rows   [][]*big.Rat // with their Values at the end
	pivots int
	free   []int
	failed bool
}

// eliminated returns the elimination of a system, up to the first free column, or to its end.
func eliminated(rows []api.Row, toFree bool) *model {
	m := &model{}
	for _, row := range rows {
		var l []*big.Rat
		for _, f := range append(slices.Clone(row.A), row.Value) {
			l = append(l, theirs(f))
		}
		m.rows = append(m.rows, l)
	}
	m.failed = fails(func() {
		for c := 0; c < len(rows) && (!toFree || len(m.free) == 0); c++ {
			m.column(c)
		}
	})
	return m
}

// column makes the elimination of a column.
func (m *model) column(c int) {
	r, found := m.pivots, m.pivots
	for found < len(m.rows) && m.rows[found][c].Sign() == 0 {
		found++
	}
	if found == len(m.rows) {
		m.free = append(m.free, c)
		return
	}
	m.rows[r], m.rows[found] = m.rows[found], m.rows[r]
	by := m.rows[r][c]
	for j := range m.rows[r] {
		m.rows[r][j] = quotient(m.rows[r][j], by)
	}
	for i, row := range m.rows {
		if had := row[c]; i != r && had.Sign() != 0 {
			for j := range row {
				row[j] = difference(row[j], product(had, m.rows[r][j]))
			}
		}
	}
	m.pivots++
}

// isSolution is the definition, without any bounds.
func isSolution(rows []api.Row, x []api.Frac) bool {
	for _, row := range rows {
		if dot(row.A, x).Cmp(theirs(row.Value)) != 0 {
			return false
		}
	}
	return true
}

// dot returns the sum of products of a row and a list, without any bounds.
func dot(a, x []api.Frac) *big.Rat {
	s := new(big.Rat)
	for i, f := range a {
		s.Add(s, new(big.Rat).Mul(theirs(f), theirs(x[i])))
	}
	return s
}

// checks is what Check should find for a system and a list of right fractions.
func checks(rows []api.Row, x []api.Frac) bool {
	for _, row := range rows {
		total := new(big.Rat)
		failed := fails(func() {
			for i, f := range row.A {
				total = sum(total, product(theirs(f), theirs(x[i])))
			}
		})
		if failed || total.Cmp(theirs(row.Value)) != 0 {
			return false
		}
	}
	return true
}

// element returns a random fraction, with integers of up to so many bits; often 0 or small.
func element(r *rand.Rand, bits int) api.Frac {
	switch r.Intn(6) {
	case 0:
		return of("0")
	case 1:
		return ours(big.NewRat(int64(r.Intn(7)-3), int64(1+r.Intn(3))))
	}
	bound := new(big.Int).Lsh(big.NewInt(1), uint(1+r.Intn(bits)))
	p, q := new(big.Int).Rand(r, bound), new(big.Int).Rand(r, bound)
	if r.Intn(2) == 0 {
		p.Neg(p)
	}
	switch {
	case q.Sign() == 0 || r.Intn(3) == 0:
		q.SetInt64(1)
	case r.Intn(3) == 0:
		p.SetInt64(int64(p.Sign()))
	}
	return ours(new(big.Rat).SetFrac(p, q))
}

// random returns a random system, of which some columns, and some rows, may be 0, or like others.
func random(r *rand.Rand, n, bits int) []api.Row {
	rows := make([]api.Row, n)
	for i := range rows {
		for range n {
			rows[i].A = append(rows[i].A, element(r, bits))
		}
		rows[i].Value = element(r, bits)
	}
	if n > 0 && r.Intn(4) == 0 {
		// A column 0 times, or once, another one.
		from, to, factor := r.Intn(n), r.Intn(n), big.NewRat(int64(r.Intn(2)), 1)
		for i := range rows {
			rows[i].A[to] = ours(new(big.Rat).Mul(theirs(rows[i].A[from]), factor))
		}
	}
	if n > 0 && r.Intn(4) == 0 {
		from := r.Intn(n)
		rows[r.Intn(n)] = deep(rows[from : from+1])[0]
	}
	return rows
}

// deep returns a copy that shares nothing.
func deep(rows []api.Row) []api.Row {
	var copies []api.Row
	for _, row := range rows {
		c := api.Row{Value: deepFrac(row.Value)}
		for _, f := range row.A {
			c.A = append(c.A, deepFrac(f))
		}
		copies = append(copies, c)
	}
	return copies
}

func deepFrac(f api.Frac) api.Frac {
	f.P.Digits, f.Q.Digits = slices.Clone(f.P.Digits), slices.Clone(f.Q.Digits)
	return f
}

// expectList checks a list of fractions.
func expectList(t *testing.T, what string, got []api.Frac, want string) {
	t.Helper()
	if texts(got) != want {
		t.Errorf("%s: %q, not %q", what, texts(got), want)
	}
}
