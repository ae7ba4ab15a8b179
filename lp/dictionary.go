package lp

import (
	"slices"

	"tonneau/api"
	"tonneau/frac"
)

// dictionary is a dictionary of a program. Its fractions are replaced, and never changed: they may share memory with
// the program.
type dictionary struct {
	lines  [][]api.Frac // of each row the elements of all columns, and v at the end
	goal   []api.Frac   // c of each column
	basic  []int        // the variable of each row
	others []int        // the variable of each column
}

// first returns the dictionary with which a search begins.
func first(rows []api.Row, goal []api.Frac) *dictionary {
	d := &dictionary{goal: slices.Clone(goal)}
	for j := range goal {
		d.others = append(d.others, j)
	}
	for i, row := range rows {
		d.lines = append(d.lines, append(slices.Clone(row.A), row.Value))
		d.basic = append(d.basic, len(goal)+i)
	}
	return d
}

// search exchanges rows and columns for as long as it can. It returns OK, if the dictionary is best; ErrNone and the
// row that contradicts; ErrRange and the column that has no end; or ErrFull.
func (d *dictionary) search() (int, api.Errno) {
	for {
		r := least(d.basic, func(i int) bool { return d.value(i).P.Sign < 0 })
		s := least(d.others, func(j int) bool { return d.goal[j].P.Sign > 0 })
		if r < 0 && s < 0 {
			return 0, api.OK
		}
		if s < 0 || r >= 0 && d.basic[r] < d.others[s] {
			s = least(d.others, func(j int) bool { return d.lines[r][j].P.Sign < 0 })
			if s < 0 {
				return r, api.ErrNone
			}
		} else {
			r = least(d.basic, func(i int) bool { return d.lines[i][s].P.Sign > 0 })
			if r < 0 {
				return s, api.ErrRange
			}
		}
		if full := d.exchange(r, s); full != api.OK {
			return 0, full
		}
	}
}

// least returns where the least variable is, of those whose places are wanted; -1, if none is.
func least(variables []int, isWanted func(place int) bool) int {
	found := -1
	for place, variable := range variables {
		if isWanted(place) && (found < 0 || variable < variables[found]) {
			found = place
		}
	}
	return found
}

// value returns v of a row.
func (d *dictionary) value(i int) api.Frac { return d.lines[i][len(d.goal)] }

// exchange exchanges the row r and the column s.
func (d *dictionary) exchange(r, s int) api.Errno {
	pivot := d.lines[r]
	p := pivot[s]
	// With 1 and 0 in the place of the elements of the column s, it is calculated like the other ones.
	pivot[s] = number(1)
	if full := divide(pivot, p); full != api.OK {
		return full
	}
	for i, line := range d.lines {
		if i == r {
			continue
		}
		if full := subtract(line, pivot, s); full != api.OK {
			return full
		}
	}
	d.basic[r], d.others[s] = d.others[s], d.basic[r]
	// The goal has no value in the dictionary: there need be no room for it.
	return subtract(d.goal, pivot[:len(d.goal)], s)
}

// divide divides each element of a line by p.
func divide(line []api.Frac, p api.Frac) api.Errno {
	for j, a := range line {
		quotient, full := frac.Div(a, p)
		if full != api.OK {
			return full
		}
		line[j] = quotient
	}
	return api.OK
}

// subtract takes the pivot's line from another one, as often as this has its column s.
func subtract(line, pivot []api.Frac, s int) api.Errno {
	f := line[s]
	if isZero(f) {
		// All products are 0, and there is always room for them: nothing changes.
		return api.OK
	}
	line[s] = number(0)
	for j, a := range pivot {
		if isZero(a) {
			continue
		}
		product, full := frac.Mul(f, a)
		if full != api.OK {
			return full
		}
		difference, full := frac.Sub(line[j], product)
		if full != api.OK {
			return full
		}
		line[j] = difference
	}
	return api.OK
}

// isZero reports whether a right fraction is 0.
func isZero(f api.Frac) bool { return f.P.Sign == 0 }

// solution returns what the columns of the program are.
func (d *dictionary) solution() []api.Frac {
	n := len(d.others)
	x := zeros(n)
	for i, variable := range d.basic {
		if variable < n {
			x[variable] = copied(d.value(i))
		}
	}
	return x
}

// prices returns what one more in each row of the program is worth.
func (d *dictionary) prices() []api.Frac {
	n := len(d.others)
	y := zeros(len(d.basic))
	for j, variable := range d.others {
		if variable >= n {
			y[variable-n] = opposite(d.goal[j])
		}
	}
	return y
}

// contradiction returns how often each row of the program is in the row r.
func (d *dictionary) contradiction(r int) []api.Frac {
	n := len(d.others)
	y := zeros(len(d.basic))
	if variable := d.basic[r]; variable >= n {
		y[variable-n] = number(1)
	}
	for j, variable := range d.others {
		if variable >= n {
			y[variable-n] = copied(d.lines[r][j])
		}
	}
	return y
}

// ray returns how fast each column of the program grows with the column s.
func (d *dictionary) ray(s int) []api.Frac {
	n := len(d.others)
	x := zeros(n)
	if variable := d.others[s]; variable < n {
		x[variable] = number(1)
	}
	for i, variable := range d.basic {
		if variable < n {
			x[variable] = opposite(d.lines[i][s])
		}
	}
	return x
}
