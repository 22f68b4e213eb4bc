package exact_test

import (
	"math"
	"math/big"
	"math/rand"
	"testing"

	"hodoscope/api"
	"hodoscope/exact"
)

// P1.4

func TestMakeOverWhole(t *testing.T) {
	l := []string{"0", "1", "-1", "6", "-4", "4294967296", "-18446744073709551616", "36893488147419103232", "9223372036854775807"}
	for i, num := range l {
		for j, den := range l {
			m, n := number(num), number(den)
			a, b := messyInts(m), messyInts(n)
			got, e := exact.Make(a[(i+j)%4], b[j%4])
			if n.Sign() == 0 {
				checkErrno(t, name("Make", num, den), e, api.ErrZero)
				checkZeroRatio(t, name("Make", num, den), got)
				continue
			}
			checkErrno(t, name("Make", num, den), e, api.OK)
			checkRatio(t, name("Make", num, den), got, new(big.Rat).SetFrac(m, n))
		}
		for _, a := range messyInts(number(num)) {
			checkRatio(t, name("Whole", num), exact.Whole(a), new(big.Rat).SetInt(number(num)))
		}
	}
	limits := []int64{0, 1, -1, 2, -6, math.MaxInt64, math.MinInt64, math.MinInt64 / 2}
	for _, num := range limits {
		for _, den := range limits {
			got, e := exact.Over(num, den)
			if den == 0 {
				checkErrno(t, name("Over", num, den), e, api.ErrZero)
				checkZeroRatio(t, name("Over", num, den), got)
				continue
			}
			checkErrno(t, name("Over", num, den), e, api.OK)
			checkRatio(t, name("Over", num, den), got, new(big.Rat).SetFrac(big.NewInt(num), big.NewInt(den)))
		}
	}
}

func TestLowestAndSignum(t *testing.T) {
	for _, f := range edgeRats() {
		for _, r := range messyRatios(f) {
			checkRatio(t, name("Lowest", r), exact.Lowest(r), f)
			if got := exact.Signum(r); got != f.Sign() {
				t.Error("Signum of", r, "is", got)
			}
		}
	}
}

func checkRatios(t *testing.T, f, g *big.Rat, r, s api.Ratio) {
	t.Helper()
	if got := exact.Compare(r, s); got != f.Cmp(g) {
		t.Error("Compare of", f, g, "is", got)
	}
	checkRatio(t, name("Plus", f, g), exact.Plus(r, s), new(big.Rat).Add(f, g))
	checkRatio(t, name("Minus", f, g), exact.Minus(r, s), new(big.Rat).Sub(f, g))
	checkRatio(t, name("Times", f, g), exact.Times(r, s), new(big.Rat).Mul(f, g))
	got, e := exact.Quotient(r, s)
	if g.Sign() == 0 {
		checkErrno(t, name("Quotient", f, g), e, api.ErrZero)
		checkZeroRatio(t, name("Quotient", f, g), got)
		return
	}
	checkErrno(t, name("Quotient", f, g), e, api.OK)
	checkRatio(t, name("Quotient", f, g), got, new(big.Rat).Quo(f, g))
}

func TestPairsOfRatios(t *testing.T) {
	l := edgeRats()
	for i, f := range l {
		for j, g := range l {
			r, s := messyRatios(f), messyRatios(g)
			checkRatios(t, f, g, r[0], s[0])
			checkRatios(t, f, g, r[(i+j)%len(r)], s[(i+2*j)%len(s)])
		}
	}
	for _, s := range messyRatios(new(big.Rat)) {
		for _, r := range append(messyRatios(new(big.Rat)), ratio("-2/3")) {
			checkRatios(t, ratOf(r), new(big.Rat), r, s)
			checkRatios(t, new(big.Rat), ratOf(r), s, r)
		}
	}
}

func TestPairsOfRandomRatios(t *testing.T) {
	r := rand.New(rand.NewSource(6))
	for range 2000 {
		f, g := randomRat(r, 5), randomRat(r, 5)
		m, n := messyRatios(f), messyRatios(g)
		checkRatios(t, f, g, m[r.Intn(len(m))], n[r.Intn(len(n))])
		near := new(big.Rat).Add(f, new(big.Rat).SetFrac(big.NewInt(1), power(2, 200))) // differs late
		checkRatios(t, f, near, m[0], ratioOf(near))
		checkRatios(t, f, f, m[0], m[1])
	}
}

func TestTotalAndDot(t *testing.T) {
	checkRatio(t, "Total of none", exact.Total(), new(big.Rat))
	checkRatio(t, "Total of nil", exact.Total(nil...), new(big.Rat))
	got, e := exact.Dot(nil, []api.Ratio{})
	checkErrno(t, "Dot of none", e, api.OK)
	checkRatio(t, "Dot of none", got, new(big.Rat))
	r := rand.New(rand.NewSource(7))
	for n := range 40 {
		var l, m []api.Ratio
		total, dot := new(big.Rat), new(big.Rat)
		for range n {
			f, g := randomRat(r, 2), randomRat(r, 2)
			x, y := messyRatios(f), messyRatios(g)
			l, m = append(l, x[r.Intn(len(x))]), append(m, y[r.Intn(len(y))])
			total.Add(total, f)
			dot.Add(dot, new(big.Rat).Mul(f, g))
		}
		checkRatio(t, "Total", exact.Total(l...), total)
		got, e := exact.Dot(l, m)
		checkErrno(t, "Dot", e, api.OK)
		checkRatio(t, "Dot", got, dot)
	}
}

func TestDotOfDifferentLengths(t *testing.T) {
	one := ratio("1")
	for _, x := range [][2][]api.Ratio{{nil, {one}}, {{one}, nil}, {{one, one}, {one}}, {{one}, {one, one}}, {{one, {}}, {one}}} {
		got, e := exact.Dot(x[0], x[1])
		checkErrno(t, "Dot", e, api.ErrArg)
		checkZeroRatio(t, "Dot", got)
	}
}

func TestTotalCancels(t *testing.T) {
	var l []api.Ratio
	for n := int64(1); n <= 60; n++ { // 1/(n (n + 1)): the sum is 60/61
		l = append(l, ratioOf(big.NewRat(1, n*(n+1))))
	}
	checkRatio(t, "Total", exact.Total(l...), big.NewRat(60, 61))
	l = append(l, ratio("-60/61"))
	checkRatio(t, "Total", exact.Total(l...), new(big.Rat))
}
