package exact

import (
	"cmp"
	"math/bits"
)

// natural is the absolute value of an integer: limbs of 64 bits, the lowest first, none of them 0 at the end.
// A limb is two words of an api.Int, because products and quotients then take a quarter of the steps.
type natural []uint64

const limbBits = 64

// trim returns l without the zeros at its end.
func trim[L ~[]E, E uint32 | uint64](l L) L {
	for len(l) > 0 && l[len(l)-1] == 0 {
		l = l[:len(l)-1]
	}
	return l
}

// fromWords returns the natural that words stand for; they may have zeros at the end.
func fromWords(words []uint32) natural {
	words = trim(words)
	n := make(natural, (len(words)+1)/2)
	for i, w := range words {
		n[i/2] |= uint64(w) << (i % 2 * 32)
	}
	return n
}

// words returns the words of n in new memory; nil for 0.
func (n natural) words() []uint32 {
	if len(n) == 0 {
		return nil
	}
	w := make([]uint32, 0, 2*len(n))
	for _, x := range n {
		w = append(w, uint32(x), uint32(x>>32))
	}
	return trim(w)
}

func fromLimb(x uint64) natural {
	return trim(natural{x})
}

// isOne matters because a denominator of 1 needs no common divisor.
func (n natural) isOne() bool {
	return len(n) == 1 && n[0] == 1
}

func (n natural) bitLength() int {
	if len(n) == 0 {
		return 0
	}
	return limbBits*(len(n)-1) + bits.Len64(n[len(n)-1])
}

// compare returns -1, 0 or 1 if a is below, equal to or above b.
func compare(a, b natural) int {
	if len(a) != len(b) {
		return cmp.Compare(len(a), len(b))
	}
	for i := len(a) - 1; i >= 0; i-- {
		if a[i] != b[i] {
			return cmp.Compare(a[i], b[i])
		}
	}
	return 0
}

func add(a, b natural) natural {
	if len(a) < len(b) {
		a, b = b, a
	}
	sum := make(natural, len(a)+1)
	copy(sum, a)
	addTo(sum, b)
	return trim(sum)
}

// subtract returns a - b; a is not below b.
func subtract(a, b natural) natural {
	rest := make(natural, len(a))
	copy(rest, a)
	subtractFrom(rest, b)
	return trim(rest)
}

// addTo adds b to a, which has at least as many limbs, and returns what is carried beyond a.
func addTo(a, b natural) (carry uint64) {
	for i, x := range b {
		a[i], carry = bits.Add64(a[i], x, carry)
	}
	for i := len(b); carry > 0 && i < len(a); i++ {
		a[i], carry = bits.Add64(a[i], 0, carry)
	}
	return carry
}

// subtractFrom subtracts b from a, which has at least as many limbs, and returns what is borrowed from beyond a.
func subtractFrom(a, b natural) (borrow uint64) {
	for i, x := range b {
		a[i], borrow = bits.Sub64(a[i], x, borrow)
	}
	for i := len(b); borrow > 0 && i < len(a); i++ {
		a[i], borrow = bits.Sub64(a[i], 0, borrow)
	}
	return borrow
}

// shiftLeft returns a times 2^n.
func shiftLeft(a natural, n int) natural {
	whole, part := n/limbBits, n%limbBits
	out := make(natural, len(a)+whole+1)
	for i, x := range a {
		out[i+whole] |= x << part
		out[i+whole+1] = x >> (limbBits - part)
	}
	return trim(out)
}

// shiftRight returns a divided by 2^n, rounded down.
func shiftRight(a natural, n int) natural {
	whole, part := n/limbBits, n%limbBits
	if whole >= len(a) {
		return nil
	}
	out := make(natural, len(a)-whole)
	copy(out, a[whole:])
	for i := range out {
		out[i] >>= part
		if i+1 < len(out) {
			out[i] |= out[i+1] << (limbBits - part)
		}
	}
	return trim(out)
}
