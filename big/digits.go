package big

import (
	"cmp"
	"math/bits"
	"slices"
)

// The functions of this file calculate with numbers that are not negative, as lists of digits of width bits,
// the lowest one first, of which the last one is not 0. What they return shares no memory with their arguments.
// A digit is so short that an int holds its products with factors of 40 bits; a carry may be negative, because
// an int that is shifted to the right is rounded down.
const (
	width = 20
	low   = 1<<width - 1 // all bits of a digit
)

// split returns the digits of a number.
func split(n uint64) []int {
	var digits []int
	for ; n > 0; n >>= width {
		digits = append(digits, int(n&low))
	}
	return digits
}

// join returns the number with some digits, modulo 2^64.
func join(digits []int) uint64 {
	n := uint64(0)
	for _, d := range slices.Backward(digits) {
		n = n<<width | uint64(d)
	}
	return n
}

// trim returns digits without the zeros at the end.
func trim(digits []int) []int {
	n := len(digits)
	for n > 0 && digits[n-1] == 0 {
		n--
	}
	return digits[:n]
}

// order compares two numbers.
func order(a, b []int) int {
	if len(a) != len(b) {
		return cmp.Compare(len(a), len(b))
	}
	for i := len(a) - 1; i >= 0; i-- {
		if a[i] != b[i] {
			return cmp.Compare(a[i], b[i])
		}
	}
	return 0
}

// carried appends the digits of what is left over, and drops zeros at the end.
func carried(digits []int, carry int) []int {
	for ; carry > 0; carry >>= width {
		digits = append(digits, carry&low)
	}
	return trim(digits)
}

// combine returns x a + y b, which must not be negative, for factors of up to 41 bits.
func combine(a []int, x int, b []int, y int) []int {
	n := max(len(a), len(b))
	r := make([]int, n, n+1)
	carry := 0
	for i := range n {
		if i < len(a) {
			carry += x * a[i]
		}
		if i < len(b) {
			carry += y * b[i]
		}
		r[i] = carry & low
		carry >>= width
	}
	return carried(r, carry)
}

// scale returns f a + carry, for numbers of up to 40 bits.
func scale(a []int, f, carry int) []int {
	r := make([]int, len(a), len(a)+2)
	for i, d := range a {
		carry += f * d
		r[i] = carry & low
		carry >>= width
	}
	return carried(r, carry)
}

// times returns a b. An int has room for as many products of digits as there can be.
func times(a, b []int) []int {
	r := make([]int, len(a)+len(b))
	for i, x := range a {
		for j, y := range b {
			r[i+j] += x * y
		}
	}
	carry := 0
	for i, d := range r {
		carry += d
		r[i] = carry & low
		carry >>= width
	}
	return trim(r)
}

// divideShort returns the quotient of a and f, and the remainder, for a divisor of up to 40 bits.
func divideShort(a []int, f int) ([]int, int) {
	q := make([]int, len(a))
	rest := 0
	for i := len(a) - 1; i >= 0; i-- {
		rest = rest<<width | a[i]
		q[i] = rest / f
		rest %= f
	}
	return trim(q), rest
}

// divide returns the quotient of a and b, and the remainder.
func divide(a, b []int) ([]int, []int) {
	if len(a) < len(b) {
		return nil, slices.Clone(a)
	}
	if len(b) <= 2 {
		q, rest := divideShort(a, int(join(b)))
		return q, split(uint64(rest))
	}
	return divideLong(a, b)
}

// divideLong divides a by a number b of at least three digits, that has no more digits than a.
func divideLong(a, b []int) ([]int, []int) {
	// Where the first digit of the divisor has all its bits, its first two digits give each digit of the
	// quotient, or one more.
	n := len(b)
	f := 1 << (width - bits.Len(uint(b[n-1])))
	v := scale(b, f, 0)
	u := append(scale(a, f, 0), 0)
	first := v[n-1]<<width | v[n-2]
	q := make([]int, len(u)-n)
	for i := len(q) - 1; i >= 0; i-- {
		rest := u[i : i+n+1]
		guess := min(low, (rest[n]<<(2*width)|rest[n-1]<<width|rest[n-2])/first)
		if !subtract(rest, v, guess) {
			subtract(rest, v, -1)
			guess--
		}
		q[i] = guess
	}
	r, _ := divideShort(trim(u), f)
	return trim(q), r
}

// subtract takes f v from u, which has one digit more than v, and reports whether u is not negative then.
func subtract(u, v []int, f int) bool {
	carry := 0
	for i, d := range v {
		carry += u[i] - f*d
		u[i] = carry & low
		carry >>= width
	}
	u[len(v)] += carry
	return u[len(v)] >= 0
}

// common returns the greatest common divisor.
func common(a, b []int) []int {
	if order(a, b) < 0 {
		a, b = b, a
	}
	for len(b) > 2 {
		a, b = closer(a, b)
	}
	if len(b) == 0 {
		return slices.Clone(a)
	}
	x := int(join(b))
	_, y := divideShort(a, x)
	for y > 0 {
		x, y = y, x%y
	}
	return split(uint64(x))
}

// closer returns a pair with the same greatest common divisor, some steps further in Euclid's algorithm:
// those that the highest bits of a and b determine (Lehmer), or else a single one.
func closer(a, b []int) ([]int, []int) {
	x, y := leading(a, len(a)), leading(b, len(a))
	// Steps that 41 bits determine have factors of at most as many bits.
	s := bits.Len(uint(x)) - 41
	m := steps(x>>s, y>>s)
	if m[1] == 0 {
		_, r := divide(a, b)
		return b, r
	}
	return combine(a, m[0], b, m[1]), combine(a, m[2], b, m[3])
}

// leading returns the highest three of n digits of a number with up to n digits.
func leading(a []int, n int) int {
	if len(a) < n-3 {
		return 0
	}
	return int(join(a[n-3:]))
}

// steps returns the factors of a and b in the pair after all steps of Euclid's algorithm that are the same for
// every a and b whose highest bits are x and y: those for which the least and the greatest quotient agree.
func steps(x, y int) [4]int {
	m := [4]int{1, 0, 0, 1}
	for y+m[2] != 0 && y+m[3] != 0 {
		q := (x + m[0]) / (y + m[2])
		if q != (x+m[1])/(y+m[3]) {
			break
		}
		m = [4]int{m[2], m[3], m[0] - q*m[2], m[1] - q*m[3]}
		x, y = y, x-q*y
	}
	return m
}
