package exact

import "math/bits"

// gcd returns the greatest common divisor of a and b; the other one if one is 0.
//
// Euclid's steps on long numbers are done many at a time (Lehmer's way): the highest 64 bits tell the quotients of about
// 32 bits' worth of steps, whose effect is then computed at once.
func gcd(a, b natural) natural {
	if compare(a, b) < 0 {
		a, b = b, a
	}
	a, b = clone(a), clone(b) // many steps at a time work in place
	for len(b) > 1 {
		if s := foresee(a, b); s.count > 0 {
			a, b = s.apply(a, b)
			continue
		}
		_, rest := divide(a, b)
		a, b = b, rest
	}
	if len(b) == 0 {
		return a
	}
	_, rest := divideLimb(a, b[0])
	return fromLimb(gcdLimb(b[0], rest))
}

func gcdLimb(a, b uint64) uint64 {
	for b != 0 {
		a, b = b, a%b
	}
	return a
}

func clone(a natural) natural {
	c := make(natural, len(a))
	copy(c, a)
	return c
}

// steps are some of Euclid's steps from a and b: after an even count of them the numbers are (a0 a - b0 b, b1 b - a1 a),
// after an odd one (b0 b - a0 a, a1 a - b1 b).
type steps struct {
	count          int
	a0, b0, a1, b1 uint64
}

// foresee returns the steps that the highest 64 bits of a, and the bits of b at the same places, tell for certain
// (Collins' condition). a is not below b, and b has more than one limb.
func foresee(a, b natural) steps {
	s := steps{a0: 1, b1: 1}
	n := len(a)
	shift := bits.LeadingZeros64(a[n-1])
	high := a[n-1]<<shift | a[n-2]>>(limbBits-shift)
	var low uint64
	switch len(b) {
	case n:
		low = b[n-1]<<shift | b[n-2]>>(limbBits-shift)
	case n - 1:
		low = b[n-2] >> (limbBits - shift)
	}
	for low > 0 {
		q := high / low
		rest := high - q*low
		a2, b2 := s.a0+q*s.a1, s.b0+q*s.b1
		if rest < b2 || low-rest < s.b1+b2 {
			break
		}
		high, low = low, rest
		s = steps{s.count + 1, s.a1, s.b1, a2, b2}
	}
	return s
}

// apply does the steps, of which there is at least one, in the memory of a and b. Both results are at most b, so they
// are computed modulo 2^(64 len(b)).
func (s steps) apply(a, b natural) (natural, natural) {
	a = a[:len(b)]
	var first, second difference
	if s.count%2 == 0 {
		for i, y := range b {
			x := a[i]
			a[i] = first.limb(x, s.a0, y, s.b0)
			b[i] = second.limb(y, s.b1, x, s.a1)
		}
	} else {
		for i, y := range b {
			x := a[i]
			a[i] = first.limb(y, s.b0, x, s.a0)
			b[i] = second.limb(x, s.a1, y, s.b1)
		}
	}
	return trim(a), trim(b)
}

// difference is what is carried from limb to limb of a difference of two products.
type difference struct{ plus, minus, borrow uint64 }

// limb returns the next limb of the difference between the product with the limb x and the factor u, and that with y
// and v.
func (d *difference) limb(x, u, y, v uint64) uint64 {
	var c uint64
	high, plus := bits.Mul64(x, u)
	plus, c = bits.Add64(plus, d.plus, 0)
	d.plus = high + c
	high, minus := bits.Mul64(y, v)
	minus, c = bits.Add64(minus, d.minus, 0)
	d.minus = high + c
	plus, d.borrow = bits.Sub64(plus, minus, d.borrow)
	return plus
}
