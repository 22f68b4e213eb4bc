// Package exact is layer 1: integers of any size and ratios of them, without rounding, and rounding where it is asked
// for (shared/doc/01-exact.md).
package exact

import (
	"cmp"

	"hodoscope/api"
)

// integer is what an api.Int stands for; neg is false for 0.
type integer struct {
	neg  bool
	size natural
}

func signed(neg bool, size natural) integer {
	return integer{neg && len(size) > 0, size}
}

// read returns the integer that a stands for, in memory of its own.
func read(a api.Int) integer {
	return signed(a.Neg, fromWords(a.Words))
}

// value returns a in normal form, in memory of its own.
func (a integer) value() api.Int {
	return api.Int{Neg: a.neg, Words: a.size.words()}
}

func (a integer) sign() int {
	switch {
	case len(a.size) == 0:
		return 0
	case a.neg:
		return -1
	}
	return 1
}

func (a integer) negated() integer {
	return signed(!a.neg, a.size)
}

func (a integer) plus(b integer) integer {
	if a.neg == b.neg {
		return signed(a.neg, add(a.size, b.size))
	}
	if compare(a.size, b.size) < 0 {
		a, b = b, a
	}
	return signed(a.neg, subtract(a.size, b.size))
}

func (a integer) times(b integer) integer {
	return signed(a.neg != b.neg, multiply(a.size, b.size))
}

// over returns the floor of a divided by b, which is not 0, and the rest.
func (a integer) over(b integer) (q, rest integer) {
	size, r := divide(a.size, b.size)
	if a.neg != b.neg && len(r) > 0 {
		size, r = add(size, natural{1}), subtract(b.size, r)
	}
	return signed(a.neg != b.neg, size), signed(b.neg, r)
}

// order compares two numbers by their signs, and asks sizes only if these are equal.
func order(a, b int, sizes func() int) int {
	if a != b {
		return cmp.Compare(a, b)
	}
	return a * sizes()
}

// Of returns n.
func Of(n int64) api.Int {
	size := uint64(n)
	if n < 0 {
		size = -size
	}
	return signed(n < 0, fromLimb(size)).value()
}

// Small returns a and true if it is from -2^63 to 2^63 - 1, otherwise 0 and false.
func Small(a api.Int) (int64, bool) {
	n := read(a)
	if len(n.size) == 0 {
		return 0, true
	}
	if len(n.size) > 1 {
		return 0, false
	}
	small := int64(n.size[0])
	if n.neg {
		small = -small
	}
	if small < 0 != n.neg {
		return 0, false
	}
	return small, true
}

// Normal returns a in normal form.
func Normal(a api.Int) api.Int {
	return read(a).value()
}

// Sign returns -1, 0 or 1 if a is below, equal to or above 0.
func Sign(a api.Int) int {
	return read(a).sign()
}

// Cmp returns the sign of a minus b.
func Cmp(a, b api.Int) int {
	m, n := read(a), read(b)
	return order(m.sign(), n.sign(), func() int { return compare(m.size, n.size) })
}

// Neg returns minus a.
func Neg(a api.Int) api.Int {
	return read(a).negated().value()
}

// Add returns the sum.
func Add(a, b api.Int) api.Int {
	return read(a).plus(read(b)).value()
}

// Sub returns the difference.
func Sub(a, b api.Int) api.Int {
	return read(a).plus(read(b).negated()).value()
}

// Mul returns the product.
func Mul(a, b api.Int) api.Int {
	return read(a).times(read(b)).value()
}

// Div returns the floor q of a divided by b, and r = a - q b; ErrZero if b is 0.
func Div(a, b api.Int) (q, r api.Int, e api.Errno) {
	by := read(b)
	if by.sign() == 0 {
		return api.Int{}, api.Int{}, api.ErrZero
	}
	quotient, rest := read(a).over(by)
	return quotient.value(), rest.value(), api.OK
}

// Gcd returns the greatest integer that divides both; 0 if both are 0.
func Gcd(a, b api.Int) api.Int {
	return signed(false, gcd(read(a).size, read(b).size)).value()
}

// Power returns a to the power n; ErrArg unless n is from 0 to MaxPower.
func Power(a api.Int, n int) (api.Int, api.Errno) {
	if n < 0 || n > api.MaxPower {
		return api.Int{}, api.ErrArg
	}
	base := read(a)
	return signed(base.neg && n%2 == 1, raise(base.size, n)).value(), api.OK
}

// Root returns the square root, rounded down; ErrArg if a is negative.
func Root(a api.Int) (api.Int, api.Errno) {
	n := read(a)
	if n.neg {
		return api.Int{}, api.ErrArg
	}
	return signed(false, root(n.size)).value(), api.OK
}
