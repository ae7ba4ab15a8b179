// Package wire is layer 1, a canonical encoding as text: see shared/doc/01-wire.md.
package wire

// maxInt is the greatest int; the absolute value of the least one is greater by 1.
const maxInt = ^uint(0) >> 1

// Num returns the encoding of n as a number, or the empty string if n is negative.
func Num(n int) string {
	if n < 0 {
		return ""
	}
	return Int(n)
}

// Int returns the encoding of n.
func Int(n int) string {
	return string(appendInt(nil, n))
}

// Text returns the encoding of s.
func Text(s string) string {
	return string(appendText(nil, s))
}

// Nums returns the encoding of a list of ints.
func Nums(l []int) string {
	return string(appendList(nil, l, appendInt))
}

// Texts returns the encoding of a list of strings.
func Texts(l []string) string {
	return string(appendList(nil, l, appendText))
}

func appendInt(b []byte, n int) []byte {
	if n < 0 {
		// Negated as a uint, because the least int has no negative among the ints.
		return append(appendDigits(append(b, '-'), -uint(n)), ';')
	}
	return append(appendDigits(b, uint(n)), ';')
}

func appendText(b []byte, s string) []byte {
	b = append(appendDigits(b, uint(len(s))), ':')
	return append(append(b, s...), ',')
}

// appendList appends the encoding of a list whose elements add appends.
func appendList[T any](b []byte, l []T, add func([]byte, T) []byte) []byte {
	b = append(appendDigits(b, uint(len(l))), '[')
	for _, e := range l {
		b = add(b, e)
	}
	return append(b, ']')
}

func appendDigits(b []byte, n uint) []byte {
	if n >= 10 {
		b = appendDigits(b, n/10)
	}
	return append(b, byte('0'+n%10))
}

// Reader reads values one after the other, until it fails.
type Reader struct {
	left   string // the bytes that have not been read; none after a failure
	failed bool
}

// Open returns a reader at the beginning of s.
func Open(s string) *Reader {
	return &Reader{left: s}
}

// Num reads a number.
func (r *Reader) Num() int {
	return int(r.digits(maxInt, ';'))
}

// Int reads an int.
func (r *Reader) Int() int {
	if len(r.left) == 0 || r.left[0] != '-' {
		return r.Num()
	}
	r.left = r.left[1:]
	n := r.digits(maxInt+1, ';')
	if n == 0 {
		r.fail()
	}
	return int(-n)
}

// Text reads a string.
func (r *Reader) Text() string {
	n := r.digits(maxInt, ':')
	if n >= uint(len(r.left)) || r.left[n] != ',' {
		r.fail()
		return ""
	}
	s := fresh(r.left[:n])
	r.left = r.left[n+1:]
	return s
}

// Nums reads a list of ints.
func (r *Reader) Nums() []int {
	return readList(r, r.Int)
}

// Texts reads a list of strings.
func (r *Reader) Texts() []string {
	return readList(r, r.Text)
}

// Rest returns the bytes that have not been read, and moves the reader to the end.
func (r *Reader) Rest() string {
	s := fresh(r.left)
	r.left = ""
	return s
}

// Left returns the number of bytes that have not been read, or 0 if the reader has failed.
func (r *Reader) Left() int {
	return len(r.left)
}

// Done reports whether the reader has not failed, and no bytes are left.
func (r *Reader) Done() bool {
	return !r.failed && r.left == ""
}

// readList reads a list whose elements read reads.
func readList[T any](r *Reader, read func() T) []T {
	n := r.digits(maxInt, '[')
	// The list grows as its elements are read: n may be far more than the bytes that are there.
	var l []T
	for range n {
		e := read()
		if r.failed {
			return nil
		}
		l = append(l, e)
	}
	if r.left == "" || r.left[0] != ']' {
		r.fail()
		return nil
	}
	r.left = r.left[1:]
	return l
}

// digits reads the digits of an integer of at most most, and the byte end after them; it returns 0 if the reader fails.
func (r *Reader) digits(most uint, end byte) uint {
	n, i := uint(0), 0
	for i < len(r.left) && '0' <= r.left[i] && r.left[i] <= '9' {
		d := uint(r.left[i] - '0')
		if n > (most-d)/10 {
			r.fail()
			return 0
		}
		n = n*10 + d
		i++
	}
	zeros := i > 1 && r.left[0] == '0'
	if i == 0 || zeros || i == len(r.left) || r.left[i] != end {
		r.fail()
		return 0
	}
	r.left = r.left[i+1:]
	return n
}

// fail leaves nothing to read, so that all later calls fail as well.
func (r *Reader) fail() {
	r.left, r.failed = "", true
}

// fresh returns a copy of s in memory of its own: a short value that was read does not keep a long text alive.
func fresh(s string) string {
	return string([]byte(s))
}
