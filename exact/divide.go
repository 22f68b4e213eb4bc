package exact

import (
	"math"
	"math/bits"
)

// divideLimb returns a divided by x, which is not 0, rounded down, and the rest.
func divideLimb(a natural, x uint64) (natural, uint64) {
	q := make(natural, len(a))
	var rest uint64
	for i := len(a) - 1; i >= 0; i-- {
		q[i], rest = bits.Div64(rest, a[i], x)
	}
	return trim(q), rest
}

// divide returns a divided by b, which is not 0, rounded down, and the rest. The rest may be a itself.
func divide(a, b natural) (q, rest natural) {
	if len(b) == 1 {
		q, r := divideLimb(a, b[0])
		return q, fromLimb(r)
	}
	if compare(a, b) < 0 {
		return nil, a
	}
	// Each limb of the quotient is guessed from the highest limbs; the guess is good if the divisor's highest bit is set.
	shift := bits.LeadingZeros64(b[len(b)-1])
	divisor := shiftLeft(b, shift)
	work := make(natural, len(a)+1)
	copy(work, shiftLeft(a, shift))
	q = make(natural, len(a)-len(b)+1)
	for i := len(q) - 1; i >= 0; i-- {
		q[i] = divideStep(work[i:i+len(divisor)+1], divisor)
	}
	return trim(q), shiftRight(trim(work), shift)
}

// divideStep returns work divided by divisor, which is less than 2^64, and leaves the rest in work. work has one limb
// more than divisor.
func divideStep(work, divisor natural) uint64 {
	n := len(divisor)
	q := guessLimb(work[n-2:], divisor[n-2:])
	borrow := subtractProduct(work[:n], divisor, q)
	high := work[n]
	work[n] = high - borrow
	for negative := high < borrow; negative; {
		q--
		work[n] += addTo(work[:n], divisor)
		negative = work[n] != 0
	}
	return q
}

// guessLimb divides the three highest limbs of the dividend by the two highest of the divisor: the result is that of
// the whole numbers, or little too great.
func guessLimb(high, divisor natural) uint64 {
	if high[2] >= divisor[1] {
		return math.MaxUint64
	}
	q, rest := bits.Div64(high[2], high[1], divisor[1])
	for {
		top, low := bits.Mul64(q, divisor[0])
		if top < rest || top == rest && low <= high[0] {
			return q
		}
		q--
		var carry uint64
		rest, carry = bits.Add64(rest, divisor[1], 0)
		if carry > 0 {
			return q
		}
	}
}

// subtractProduct subtracts a times x from out, which has as many limbs as a, and returns what is borrowed from beyond it.
func subtractProduct(out, a natural, x uint64) (borrow uint64) {
	out = out[:len(a)]
	for i, y := range a {
		high, low := bits.Mul64(x, y)
		var c uint64
		low, c = bits.Add64(low, borrow, 0)
		high += c
		out[i], c = bits.Sub64(out[i], low, 0)
		borrow = high + c
	}
	return borrow
}

// root returns the square root of a, rounded down, by Newton's steps: from above they descend until they are there.
func root(a natural) natural {
	if len(a) == 0 {
		return nil
	}
	guess := shiftLeft(natural{1}, (a.bitLength()+1)/2)
	for {
		q, _ := divide(a, guess)
		next := shiftRight(add(guess, q), 1)
		if compare(next, guess) >= 0 {
			return guess
		}
		guess = next
	}
}
