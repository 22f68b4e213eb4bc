package exact

import "hodoscope/api"

// fraction is what an api.Ratio stands for. den is above 0; both may have a common divisor, which is looked for only
// when a result is given out.
type fraction struct {
	num integer
	den natural
}

func whole(n integer) fraction {
	return fraction{n, natural{1}}
}

func readRatio(r api.Ratio) fraction {
	den := read(r.Den)
	if den.sign() == 0 {
		return whole(integer{})
	}
	return divided(read(r.Num), den)
}

func readRatios(l []api.Ratio) []fraction {
	out := make([]fraction, 0, len(l))
	for _, r := range l {
		out = append(out, readRatio(r))
	}
	return out
}

// divided returns num divided by den, which is not 0.
func divided(num, den integer) fraction {
	return fraction{signed(num.neg != den.neg, num.size), den.size}
}

// value returns f in normal form, in memory of its own.
func (f fraction) value() api.Ratio {
	num, den := f.num.size, f.den
	if !den.isOne() {
		num, den = divideBoth(num, den, gcd(num, den))
	}
	return api.Ratio{Num: signed(f.num.neg, num).value(), Den: signed(false, den).value()}
}

// divideBoth divides a and b by a common divisor.
func divideBoth(a, b, by natural) (natural, natural) {
	if by.isOne() {
		return a, b
	}
	a, _ = divide(a, by)
	b, _ = divide(b, by)
	return a, b
}

func (f fraction) negated() fraction {
	return fraction{f.num.negated(), f.den}
}

// plus takes the least common denominator, so that a long sum grows no more than its elements ask for.
func (f fraction) plus(g fraction) fraction {
	if compare(f.den, g.den) == 0 {
		return fraction{f.num.plus(g.num), f.den}
	}
	mine, other := divideBoth(f.den, g.den, gcd(f.den, g.den))
	sum := f.num.times(signed(false, other)).plus(g.num.times(signed(false, mine)))
	return fraction{sum, multiply(f.den, other)}
}

func (f fraction) times(g fraction) fraction {
	return fraction{f.num.times(g.num), multiply(f.den, g.den)}
}

// over returns f divided by g, which is not 0.
func (f fraction) over(g fraction) fraction {
	num := f.num.times(signed(false, g.den))
	den := g.num.times(signed(false, f.den))
	return divided(num, den)
}

func sum(l ...fraction) fraction {
	total := whole(integer{})
	for _, f := range l {
		total = total.plus(f)
	}
	return total
}

// Make returns num divided by den; ErrZero if den is 0.
func Make(num, den api.Int) (api.Ratio, api.Errno) {
	by := read(den)
	if by.sign() == 0 {
		return api.Ratio{}, api.ErrZero
	}
	return divided(read(num), by).value(), api.OK
}

// Over returns num divided by den; ErrZero if den is 0.
func Over(num, den int64) (api.Ratio, api.Errno) {
	return Make(Of(num), Of(den))
}

// Whole returns the ratio a.
func Whole(a api.Int) api.Ratio {
	return whole(read(a)).value()
}

// Lowest returns r in normal form.
func Lowest(r api.Ratio) api.Ratio {
	return readRatio(r).value()
}

// Signum returns -1, 0 or 1 if r is below, equal to or above 0.
func Signum(r api.Ratio) int {
	return readRatio(r).num.sign()
}

// Compare returns the sign of r minus s.
func Compare(r, s api.Ratio) int {
	f, g := readRatio(r), readRatio(s)
	return order(f.num.sign(), g.num.sign(), func() int {
		return compare(multiply(f.num.size, g.den), multiply(g.num.size, f.den))
	})
}

// Plus returns the sum.
func Plus(r, s api.Ratio) api.Ratio {
	return readRatio(r).plus(readRatio(s)).value()
}

// Minus returns the difference.
func Minus(r, s api.Ratio) api.Ratio {
	return readRatio(r).plus(readRatio(s).negated()).value()
}

// Times returns the product.
func Times(r, s api.Ratio) api.Ratio {
	return readRatio(r).times(readRatio(s)).value()
}

// Quotient returns r divided by s; ErrZero if s is 0.
func Quotient(r, s api.Ratio) (api.Ratio, api.Errno) {
	by := readRatio(s)
	if by.num.sign() == 0 {
		return api.Ratio{}, api.ErrZero
	}
	return readRatio(r).over(by).value(), api.OK
}

// Total returns the sum of all; 0 of none.
func Total(l ...api.Ratio) api.Ratio {
	return sum(readRatios(l)...).value()
}

// Dot returns the sum of the products of the elements with the same index; ErrArg unless there are as many in both.
func Dot(l, m []api.Ratio) (api.Ratio, api.Errno) {
	if len(l) != len(m) {
		return api.Ratio{}, api.ErrArg
	}
	products := readRatios(l)
	for i, f := range readRatios(m) {
		products[i] = products[i].times(f)
	}
	return sum(products...).value(), api.OK
}
