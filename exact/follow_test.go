package exact_test

import (
	"math/big"
	"math/rand"
	"testing"

	"hodoscope/api"
	"hodoscope/exact"
)

// P1.9

func equalInts(t *testing.T, law string, a, b api.Int) {
	t.Helper()
	if exact.Cmp(a, b) != 0 {
		t.Error(law, "does not hold:", exact.Text(a), exact.Text(b))
	}
}

func equalRatios(t *testing.T, law string, r, s api.Ratio) {
	t.Helper()
	if exact.Compare(r, s) != 0 || exact.Show(r) != exact.Show(s) {
		t.Error(law, "does not hold:", exact.Show(r), exact.Show(s))
	}
}

func TestIntegersFormAnOrderedRing(t *testing.T) {
	r := rand.New(rand.NewSource(11))
	one := exact.Of(1)
	for range 400 {
		a, b, c := intOf(random(r, 6)), intOf(random(r, 6)), intOf(random(r, 6))
		equalInts(t, "a + b = b + a", exact.Add(a, b), exact.Add(b, a))
		equalInts(t, "(a + b) + c = a + (b + c)", exact.Add(exact.Add(a, b), c), exact.Add(a, exact.Add(b, c)))
		equalInts(t, "a + 0 = a", exact.Add(a, api.Int{}), a)
		equalInts(t, "a + -a = 0", exact.Add(a, exact.Neg(a)), api.Int{})
		equalInts(t, "a b = b a", exact.Mul(a, b), exact.Mul(b, a))
		equalInts(t, "(a b) c = a (b c)", exact.Mul(exact.Mul(a, b), c), exact.Mul(a, exact.Mul(b, c)))
		equalInts(t, "a 1 = a", exact.Mul(a, one), a)
		equalInts(t, "a (b + c) = a b + a c", exact.Mul(a, exact.Add(b, c)), exact.Add(exact.Mul(a, b), exact.Mul(a, c)))
		if exact.Cmp(a, b) != -exact.Cmp(b, a) || exact.Cmp(exact.Add(a, c), exact.Add(b, c)) != exact.Cmp(a, b) {
			t.Error("order and sums do not agree")
		}
		if exact.Cmp(exact.Mul(a, c), exact.Mul(b, c)) != exact.Cmp(a, b)*exact.Sign(c) {
			t.Error("order and products do not agree")
		}
	}
}

func TestRatiosFormAnOrderedField(t *testing.T) {
	r := rand.New(rand.NewSource(12))
	one := exact.Whole(exact.Of(1))
	for range 300 {
		a, b, c := ratioOf(randomRat(r, 4)), ratioOf(randomRat(r, 4)), ratioOf(randomRat(r, 4))
		equalRatios(t, "a + b = b + a", exact.Plus(a, b), exact.Plus(b, a))
		equalRatios(t, "(a + b) + c = a + (b + c)", exact.Plus(exact.Plus(a, b), c), exact.Plus(a, exact.Plus(b, c)))
		equalRatios(t, "a + 0 = a", exact.Plus(a, api.Ratio{}), a)
		equalRatios(t, "(a - b) + b = a", exact.Plus(exact.Minus(a, b), b), a)
		equalRatios(t, "a b = b a", exact.Times(a, b), exact.Times(b, a))
		equalRatios(t, "(a b) c = a (b c)", exact.Times(exact.Times(a, b), c), exact.Times(a, exact.Times(b, c)))
		equalRatios(t, "a (b + c) = a b + a c", exact.Times(a, exact.Plus(b, c)), exact.Plus(exact.Times(a, b), exact.Times(a, c)))
		equalRatios(t, "a 1 = a", exact.Times(a, one), a)
		equalRatios(t, "total", exact.Total(a, b, c), exact.Plus(a, exact.Plus(b, c)))
		if exact.Signum(b) != 0 {
			q, e := exact.Quotient(a, b)
			checkErrno(t, "Quotient", e, api.OK)
			equalRatios(t, "(a / b) b = a", exact.Times(q, b), a)
		}
		if exact.Compare(a, b) != -exact.Compare(b, a) || exact.Compare(exact.Plus(a, c), exact.Plus(b, c)) != exact.Compare(a, b) {
			t.Error("order and sums do not agree")
		}
		if exact.Compare(exact.Times(a, c), exact.Times(b, c)) != exact.Compare(a, b)*exact.Signum(c) {
			t.Error("order and products do not agree")
		}
	}
}

// within checks that twice the absolute value of r - s is at most limit.
func within(t *testing.T, what string, r, s, limit api.Ratio) {
	t.Helper()
	twice := exact.Times(exact.Minus(r, s), exact.Whole(exact.Of(2)))
	if exact.Compare(twice, limit) > 0 || exact.Compare(twice, exact.Minus(api.Ratio{}, limit)) < 0 {
		t.Error(what, "differs too much:", exact.Show(r), exact.Show(s))
	}
}

func TestRoundingIsNear(t *testing.T) {
	for _, f := range roundedRats() {
		r := ratioOf(f)
		for _, bits := range []int{0, 3, 70} {
			n, _ := exact.Fixed(r, bits)
			back, e := exact.FromFixed(n, bits)
			checkErrno(t, "FromFixed", e, api.OK)
			within(t, "Fixed", back, r, ratioOf(new(big.Rat).SetFrac(big.NewInt(1), power(2, int64(bits)))))
		}
		for _, places := range []int{0, 1, 20, api.MaxPlaces} {
			s, _ := exact.Decimal(r, places)
			back, e := exact.ParseRatio(s)
			checkErrno(t, name("ParseRatio", s), e, api.OK)
			within(t, "Decimal", back, r, ratioOf(new(big.Rat).SetFrac(big.NewInt(1), power(10, int64(places)))))
		}
	}
}

func TestTextsAreRead(t *testing.T) {
	r := rand.New(rand.NewSource(13))
	for range 500 {
		n, f := random(r, 30), randomRat(r, 15)
		a, e := exact.Parse(exact.Text(intOf(n)))
		checkErrno(t, "Parse of Text", e, api.OK)
		checkInt(t, "Parse of Text", a, n)
		back, e := exact.ParseRatio(exact.Show(ratioOf(f)))
		checkErrno(t, "ParseRatio of Show", e, api.OK)
		checkRatio(t, "ParseRatio of Show", back, f)
	}
}

func TestBetweenHasTheLeastDen(t *testing.T) {
	r := rand.New(rand.NewSource(14))
	for range 300 {
		lo, hi := randomRat(r, 3), randomRat(r, 3)
		if lo.Cmp(hi) > 0 {
			lo, hi = hi, lo
		}
		x, e := exact.Between(ratioOf(lo), ratioOf(hi))
		checkErrno(t, "Between", e, api.OK)
		got, middle := ratOf(x), new(big.Rat).Quo(new(big.Rat).Add(lo, hi), big.NewRat(2, 1))
		if got.Cmp(lo) < 0 || got.Cmp(hi) > 0 {
			t.Error("Between of", lo, hi, "is", got)
		}
		for _, f := range []*big.Rat{lo, hi, middle} {
			if got.Denom().Cmp(f.Denom()) > 0 {
				t.Error("Between of", lo, hi, "has a greater Den than", f)
			}
		}
	}
}
