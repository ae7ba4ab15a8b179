package share

import (
	"math/big"
	"slices"

	"tonneau/api"
)

// field returns a number modulo Prime, from 0 on.
func field(x *big.Int) *big.Int {
	return new(big.Int).Mod(x, big.NewInt(2147483647))
}

// modelSplit is Split as the chapter says it, calculated with Go's own big integers.
func modelSplit(secret, k, n, seed int) ([]api.Share, api.Errno) {
	if secret < 0 || secret > 2147483646 || n < 1 || n > 20 || k < 1 || k > n {
		return nil, api.ErrArg
	}
	c := []*big.Int{big.NewInt(int64(secret))}
	modulus := big.NewInt(1 << 31)
	x := new(big.Int).Mod(big.NewInt(int64(seed)), modulus)
	for range k - 1 {
		x = new(big.Int).Mul(big.NewInt(1103515245), x)
		x.Add(x, big.NewInt(12345))
		x.Mod(x, modulus)
		c = append(c, field(x))
	}
	var shares []api.Share
	for place := 1; place <= n; place++ {
		value, power := big.NewInt(0), big.NewInt(1)
		for _, a := range c {
			value.Add(value, new(big.Int).Mul(a, power))
			power.Mul(power, big.NewInt(int64(place)))
		}
		shares = append(shares, api.Share{X: place, Y: int(field(value).Int64())})
	}
	return shares, api.OK
}

// isRight reports whether a share is right, as the chapter says it.
func isRight(s api.Share) bool {
	return 1 <= s.X && s.X <= 20 && 0 <= s.Y && s.Y <= 2147483646
}

// twoHaveOne reports whether two shares of a list have the same X.
func twoHaveOne(l []api.Share) bool {
	for i := range l {
		for j := range i {
			if l[i].X == l[j].X {
				return true
			}
		}
	}
	return false
}

// equations returns the linear equations of the coefficients of a polynomial of a degree less than k that has all these values.
func equations(l []api.Share, k int) [][]*big.Int {
	var rows [][]*big.Int
	for _, s := range l {
		var row []*big.Int
		power := big.NewInt(1)
		for range k {
			row = append(row, power)
			power = field(new(big.Int).Mul(power, big.NewInt(int64(s.X))))
		}
		rows = append(rows, append(row, big.NewInt(int64(s.Y))))
	}
	return rows
}

// solve eliminates in linear equations of k unknowns, and reports whether they have a solution; first is the first unknown, if the solution is the only one.
func solve(rows [][]*big.Int, k int) (first int, ok bool) {
	done := 0
	for column := range k {
		i := slices.IndexFunc(rows[done:], func(row []*big.Int) bool { return row[column].Sign() != 0 })
		if i < 0 {
			continue
		}
		rows[done], rows[done+i] = rows[done+i], rows[done]
		inverse := new(big.Int).ModInverse(rows[done][column], big.NewInt(2147483647))
		for j := range rows[done] {
			rows[done][j] = field(new(big.Int).Mul(rows[done][j], inverse))
		}
		for other := range rows {
			if other == done {
				continue
			}
			factor := rows[other][column]
			for j := range rows[other] {
				product := new(big.Int).Mul(factor, rows[done][j])
				rows[other][j] = field(new(big.Int).Sub(rows[other][j], product))
			}
		}
		done++
	}
	for _, row := range rows[done:] {
		if row[k].Sign() != 0 {
			return 0, false
		}
	}
	if done == k {
		first = int(rows[0][k].Int64())
	}
	return first, true
}

// modelJoin is Join as the chapter says it.
func modelJoin(l []api.Share, k int) (int, api.Errno) {
	if k < 1 || k > 20 || slices.ContainsFunc(l, func(s api.Share) bool { return !isRight(s) }) {
		return 0, api.ErrArg
	}
	if twoHaveOne(l) {
		return 0, api.ErrTwice
	}
	if len(l) < k {
		return 0, api.ErrFew
	}
	secret, ok := solve(equations(l, k), k)
	if !ok {
		return 0, api.ErrCheck
	}
	return secret, api.OK
}

// modelFits is Fits as the chapter says it.
func modelFits(l []api.Share, k, secret int) bool {
	if k < 1 || k > 20 || secret < 0 || secret > 2147483646 {
		return false
	}
	if slices.ContainsFunc(l, func(s api.Share) bool { return !isRight(s) }) || twoHaveOne(l) {
		return false
	}
	_, ok := solve(equations(append(slices.Clone(l), api.Share{X: 0, Y: secret}), k), k)
	return ok
}
