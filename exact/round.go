package exact

import "hodoscope/api"

func (f fraction) floor() integer {
	q, _ := f.num.over(signed(false, f.den))
	return q
}

// nearest returns the floor of f + 1/2.
func (f fraction) nearest() integer {
	twice := signed(f.num.neg, shiftLeft(f.num.size, 1))
	return fraction{twice.plus(signed(false, f.den)), shiftLeft(f.den, 1)}.floor()
}

// shifted returns f times 2^n.
func (f fraction) shifted(n int) fraction {
	return fraction{signed(f.num.neg, shiftLeft(f.num.size, n)), f.den}
}

func validBits(bits int) bool {
	return bits >= 0 && bits <= api.MaxBits
}

// Floor returns the greatest integer that is not greater than r.
func Floor(r api.Ratio) api.Int {
	return readRatio(r).floor().value()
}

// Nearest returns the nearest integer; halves are rounded up.
func Nearest(r api.Ratio) api.Int {
	return readRatio(r).nearest().value()
}

// Fixed returns the nearest integer of r times 2^bits; ErrArg unless bits is from 0 to MaxBits.
func Fixed(r api.Ratio, bits int) (api.Int, api.Errno) {
	if !validBits(bits) {
		return api.Int{}, api.ErrArg
	}
	return readRatio(r).shifted(bits).nearest().value(), api.OK
}

// FromFixed returns n divided by 2^bits; ErrArg unless bits is from 0 to MaxBits.
func FromFixed(n api.Int, bits int) (api.Ratio, api.Errno) {
	if !validBits(bits) {
		return api.Ratio{}, api.ErrArg
	}
	return fraction{read(n), shiftLeft(natural{1}, bits)}.value(), api.OK
}

// RootFixed returns the square root of r times 2^bits, rounded down; ErrArg unless bits is from 0 to MaxBits, and r is
// not negative.
func RootFixed(r api.Ratio, bits int) (api.Int, api.Errno) {
	f := readRatio(r)
	if !validBits(bits) || f.num.neg {
		return api.Int{}, api.ErrArg
	}
	return signed(false, root(f.shifted(2*bits).floor().size)).value(), api.OK
}

// Between returns, of all numbers from lo to hi, the one with the least Den, and of these the one with the Num closest
// to 0; ErrArg if lo is greater than hi.
func Between(lo, hi api.Ratio) (api.Ratio, api.Errno) {
	if Compare(lo, hi) > 0 {
		return api.Ratio{}, api.ErrArg
	}
	low, high := readRatio(lo), readRatio(hi)
	switch {
	case low.num.sign() > 0:
		return simplest(low, high).value(), api.OK
	case high.num.sign() < 0:
		return simplest(high.negated(), low.negated()).negated().value(), api.OK
	}
	return whole(integer{}).value(), api.OK
}

// simplest returns the simplest number from low to high; both are above 0. It is the shortest continued fraction of
// them: as long as no integer lies from low to high, both have the same floor, which is the fraction's next term, and
// the terms after it are those of what lies between the reciprocals of the rests.
func simplest(low, high fraction) fraction {
	a, b, c, d := low.num.size, low.den, high.num.size, high.den // low is a / b, high is c / d
	num, den := natural{1}, natural(nil)
	lastNum, lastDen := natural(nil), natural{1}
	for {
		term, rest := divide(a, b)
		integral := len(rest) == 0
		if !integral {
			next := add(term, natural{1})
			if integral = compare(multiply(next, d), c) <= 0; integral {
				term = next
			}
		}
		num, lastNum = add(multiply(term, num), lastNum), num
		den, lastDen = add(multiply(term, den), lastDen), den
		if integral {
			return fraction{signed(false, num), den}
		}
		a, b, c, d = d, subtract(c, multiply(term, d)), b, rest
	}
}
