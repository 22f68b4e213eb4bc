package exact

import "math/bits"

// splitLimbs is the length from which three products of halves are faster than one product limb by limb.
const splitLimbs = 80

func multiply(a, b natural) natural {
	if len(a) < len(b) {
		a, b = b, a
	}
	if len(b) < splitLimbs {
		return multiplyLimbs(a, b)
	}
	half := (len(a) + 1) / 2
	if len(b) <= half {
		return join(multiply(trim(a[:half]), b), multiply(a[half:], b), half)
	}
	return multiplyHalves(a, b, half)
}

func multiplyLimbs(a, b natural) natural {
	out := make(natural, len(a)+len(b))
	for i, x := range b {
		out[i+len(a)] = addProduct(out[i:i+len(a)], a, x)
	}
	return trim(out)
}

// addProduct adds a times x to out, which has as many limbs as a, and returns what is carried beyond it.
func addProduct(out, a natural, x uint64) (carry uint64) {
	out = out[:len(a)]
	for i, y := range a {
		high, low := bits.Mul64(x, y)
		var c uint64
		low, c = bits.Add64(low, carry, 0)
		high += c
		out[i], c = bits.Add64(out[i], low, 0)
		carry = high + c
	}
	return carry
}

// multiplyHalves needs only three products of half the length (Karatsuba's way): that of the sums of the halves, less
// the two others, is what belongs in the middle.
func multiplyHalves(a, b natural, half int) natural {
	aLow, aHigh := trim(a[:half]), a[half:]
	bLow, bHigh := trim(b[:half]), b[half:]
	low, high := multiply(aLow, bLow), multiply(aHigh, bHigh)
	middle := multiply(add(aLow, aHigh), add(bLow, bHigh))
	subtractFrom(middle, low)
	subtractFrom(middle, high)
	return join(low, join(trim(middle), high, half), half)
}

// join returns low plus high times 2^(64 limbs).
func join(low, high natural, limbs int) natural {
	out := make(natural, max(len(low), len(high)+limbs)+1)
	copy(out[limbs:], high)
	addTo(out, low)
	return trim(out)
}

// multiplyAdd returns a times x, plus y.
func multiplyAdd(a natural, x, y uint64) natural {
	out := make(natural, len(a)+1)
	out[0] = y
	carry := addProduct(out[:len(a)], a, x)
	out[len(a)] += carry
	return trim(out)
}

// raise returns base to the power n.
func raise(base natural, n int) natural {
	out := natural{1}
	for ; n > 0; n /= 2 {
		if n%2 == 1 {
			out = multiply(out, base)
		}
		if n > 1 {
			base = multiply(base, base)
		}
	}
	return out
}
