package exact_test

import (
	"math"
	"math/big"
	"math/rand"
	"testing"

	"hodoscope/api"
	"hodoscope/exact"
)

func floor(f *big.Rat) *big.Int {
	return new(big.Int).Div(f.Num(), f.Denom()) // Div rounds down if the divisor is above 0
}

func nearest(f *big.Rat) *big.Int {
	return floor(new(big.Rat).Add(f, big.NewRat(1, 2)))
}

func scaled(f *big.Rat, bits int) *big.Rat {
	return new(big.Rat).Mul(f, new(big.Rat).SetInt(power(2, int64(bits))))
}

var wrongBits = []int{-1, api.MaxBits + 1, math.MaxInt, math.MinInt}

// P1.5

func roundedRats() []*big.Rat {
	l := edgeRats()
	r := rand.New(rand.NewSource(8))
	for n := int64(-12); n <= 12; n++ {
		l = append(l, big.NewRat(n, 2), big.NewRat(n, 3), big.NewRat(n, 4), big.NewRat(n, 5))
	}
	for range 300 {
		f := randomRat(r, 5)
		half := new(big.Rat).Add(new(big.Rat).SetInt(floor(f)), big.NewRat(1, 2))
		l = append(l, f, half, new(big.Rat).Sub(half, big.NewRat(1, math.MaxInt64)))
	}
	return l
}

func TestFloorAndNearest(t *testing.T) {
	for _, f := range roundedRats() {
		for _, r := range messyRatios(f) {
			checkInt(t, name("Floor", f), exact.Floor(r), floor(f))
			checkInt(t, name("Nearest", f), exact.Nearest(r), nearest(f))
		}
	}
}

func TestFixed(t *testing.T) {
	for i, f := range roundedRats() {
		l := messyRatios(f)
		for _, bits := range []int{0, 1, 2, 31, 32, 33, 63, 64, 65, 127, api.MaxBits - 1, api.MaxBits} {
			got, e := exact.Fixed(l[i%len(l)], bits)
			checkErrno(t, name("Fixed", f, bits), e, api.OK)
			checkInt(t, name("Fixed", f, bits), got, nearest(scaled(f, bits)))
		}
	}
	for _, bits := range wrongBits {
		got, e := exact.Fixed(ratio("1/3"), bits)
		checkErrno(t, name("Fixed", bits), e, api.ErrArg)
		checkZeroInt(t, name("Fixed", bits), got)
	}
}

func TestFromFixed(t *testing.T) {
	for i, n := range edges() {
		l := messyInts(n)
		for _, bits := range []int{0, 1, 5, 32, 64, 100, api.MaxBits - 1, api.MaxBits} {
			got, e := exact.FromFixed(l[(i+bits)%len(l)], bits)
			checkErrno(t, name("FromFixed", n, bits), e, api.OK)
			checkRatio(t, name("FromFixed", n, bits), got, new(big.Rat).SetFrac(n, power(2, int64(bits))))
		}
	}
	for _, bits := range wrongBits {
		for _, n := range []string{"0", "3"} {
			got, e := exact.FromFixed(whole(n), bits)
			checkErrno(t, name("FromFixed", bits), e, api.ErrArg)
			checkZeroRatio(t, name("FromFixed", bits), got)
		}
	}
}

func TestRootFixed(t *testing.T) {
	for i, f := range roundedRats() {
		f = new(big.Rat).Abs(f)
		l := messyRatios(f)
		for _, bits := range []int{0, 1, 4, 33, 64, api.MaxBits - 1, api.MaxBits} {
			got, e := exact.RootFixed(l[i%len(l)], bits)
			checkErrno(t, name("RootFixed", f, bits), e, api.OK)
			checkInt(t, name("RootFixed", f, bits), got, new(big.Int).Sqrt(floor(scaled(f, 2*bits))))
		}
	}
	for _, x := range [][2]string{{"2", "22"}, {"121/64", "22"}, {"481/256", "21"}, {"0", "0"}, {"1/256", "1"}, {"1/257", "0"}} {
		got, e := exact.RootFixed(ratio(x[0]), 4)
		checkErrno(t, name("RootFixed", x[0]), e, api.OK)
		checkInt(t, name("RootFixed", x[0]), got, number(x[1]))
	}
}

func TestRootFixedErrors(t *testing.T) {
	for _, bits := range append(wrongBits, 0, api.MaxBits) {
		for _, f := range []string{"-1", "-1/18446744073709551616"} {
			for _, r := range messyRatios(rational(f)) {
				got, e := exact.RootFixed(r, bits)
				checkErrno(t, name("RootFixed", f, bits), e, api.ErrArg)
				checkZeroInt(t, name("RootFixed", f, bits), got)
			}
		}
	}
	for _, bits := range wrongBits {
		got, e := exact.RootFixed(ratio("2"), bits)
		checkErrno(t, name("RootFixed", bits), e, api.ErrArg)
		checkZeroInt(t, name("RootFixed", bits), got)
	}
	for _, r := range messyRatios(new(big.Rat)) { // 0 is not negative, however it is written
		got, e := exact.RootFixed(r, 3)
		checkErrno(t, name("RootFixed", r), e, api.OK)
		checkInt(t, name("RootFixed", r), got, new(big.Int))
	}
}

// P1.6

// search returns the number that Between promises, by trying all denominators.
func search(lo, hi *big.Rat) *big.Rat {
	for den := int64(1); ; den++ {
		d := new(big.Rat).SetInt64(den)
		first := floor(new(big.Rat).Neg(new(big.Rat).Mul(lo, d)))
		first.Neg(first) // rounded up
		last := floor(new(big.Rat).Mul(hi, d))
		if first.Cmp(last) > 0 {
			continue
		}
		switch {
		case first.Sign() > 0:
			return new(big.Rat).SetFrac(first, big.NewInt(den))
		case last.Sign() < 0:
			return new(big.Rat).SetFrac(last, big.NewInt(den))
		}
		return new(big.Rat)
	}
}

func TestBetweenAgainstSearch(t *testing.T) {
	var l []*big.Rat
	for den := int64(1); den <= 6; den++ {
		for num := -3 * den; num <= 3*den; num++ {
			if f := big.NewRat(num, den); f.Denom().Int64() == den {
				l = append(l, f)
			}
		}
	}
	for i, lo := range l {
		for j, hi := range l {
			r, s := messyRatios(lo), messyRatios(hi)
			checkBetween(t, lo, hi, r[(i+j)%len(r)], s[(i+2*j)%len(s)])
		}
	}
	r := rand.New(rand.NewSource(9))
	for range 2000 {
		lo := big.NewRat(r.Int63n(4001)-2000, 1+r.Int63n(500))
		hi := new(big.Rat).Add(lo, big.NewRat(r.Int63n(20), 1+r.Int63n(20000)))
		checkBetween(t, lo, hi, ratioOf(lo), ratioOf(hi))
	}
}

func checkBetween(t *testing.T, lo, hi *big.Rat, r, s api.Ratio) {
	t.Helper()
	got, e := exact.Between(r, s)
	if lo.Cmp(hi) > 0 {
		checkErrno(t, name("Between", lo, hi), e, api.ErrArg)
		checkZeroRatio(t, name("Between", lo, hi), got)
		return
	}
	checkErrno(t, name("Between", lo, hi), e, api.OK)
	checkRatio(t, name("Between", lo, hi), got, search(lo, hi))
}

// TestBetweenOfLongNumbers checks that no number with a lesser Den lies between: the two numbers with the greatest such
// Dens on either side of the result are outside.
func TestBetweenOfLongNumbers(t *testing.T) {
	r := rand.New(rand.NewSource(10))
	for range 300 {
		lo := randomRat(r, 8)
		hi := new(big.Rat).Add(lo, new(big.Rat).SetFrac(big.NewInt(1+r.Int63n(100)), power(2, 1+r.Int63n(300))))
		got, e := exact.Between(ratioOf(lo), ratioOf(hi))
		checkErrno(t, name("Between", lo, hi), e, api.OK)
		x := ratOf(got)
		checkRatio(t, name("Between", lo, hi), got, x)
		if x.Cmp(lo) < 0 || x.Cmp(hi) > 0 {
			t.Error("Between of", lo, hi, "is outside:", x)
		}
		if x.IsInt() {
			continue // an integer, with the least Den that there is
		}
		den := new(big.Int).ModInverse(x.Num(), x.Denom())
		num := new(big.Int).Mul(x.Num(), den)
		num.Sub(num, big.NewInt(1)).Quo(num, x.Denom())
		below := new(big.Rat).SetFrac(num, den)
		above := new(big.Rat).SetFrac(new(big.Int).Sub(x.Num(), num), new(big.Int).Sub(x.Denom(), den))
		if below.Cmp(lo) >= 0 || above.Cmp(hi) <= 0 {
			t.Error("Between of", lo, hi, "is", x, "though", below, "or", above, "lies between")
		}
	}
}

func TestBetweenOfOneNumber(t *testing.T) {
	for i, f := range edgeRats() {
		l := messyRatios(f)
		got, e := exact.Between(l[i%len(l)], l[(i+1)%len(l)])
		checkErrno(t, name("Between", f, f), e, api.OK)
		checkRatio(t, name("Between", f, f), got, f)
	}
}

func TestBetweenAtIntegers(t *testing.T) {
	for _, x := range [][3]string{{"7/2", "9", "4"}, {"3", "9", "3"}, {"-9", "-7/2", "-4"}, {"-9", "-3", "-3"}, {"5/2", "3", "3"}, {"-3", "-5/2", "-3"}, {"0", "5", "0"}, {"-5", "0", "0"},
		{"-1/7", "1/9", "0"}, {"18446744073709551615/2", "18446744073709551617", "9223372036854775808"}, {"1/18446744073709551616", "1/2", "1/2"}, {"0.999", "0.9999", "999/1000"}, {"3.14159", "3.1416", "355/113"}} {
		got, e := exact.Between(ratio(x[0]), ratio(x[1]))
		checkErrno(t, name("Between", x[0], x[1]), e, api.OK)
		checkRatio(t, name("Between", x[0], x[1]), got, rational(x[2]))
	}
}
