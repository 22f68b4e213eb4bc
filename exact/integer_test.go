package exact_test

import (
	"math"
	"math/big"
	"math/bits"
	"math/rand"
	"testing"

	"hodoscope/api"
	"hodoscope/exact"
)

// P1.1

func TestOfAndSmall(t *testing.T) {
	for _, n := range []int64{0, 1, -1, 1<<31 - 1, 1 << 31, -1 << 31, 1<<32 - 1, 1 << 32, 1<<32 + 1, -1 << 32, math.MaxInt64, math.MinInt64, math.MinInt64 + 1} {
		checkInt(t, name("Of", n), exact.Of(n), big.NewInt(n))
		for _, a := range messyInts(big.NewInt(n)) {
			if got, is := exact.Small(a); got != n || !is {
				t.Error("Small of", a, "is", got, is)
			}
		}
	}
	for _, s := range []string{"9223372036854775808", "-9223372036854775809", "18446744073709551615", "-18446744073709551615", "18446744073709551616", "-18446744073709551617", "79228162514264337593543950336"} {
		for _, a := range messyInts(number(s)) {
			if got, is := exact.Small(a); got != 0 || is {
				t.Error("Small of", s, "is", got, is)
			}
		}
	}
}

func TestNormalSignNeg(t *testing.T) {
	for _, n := range edges() {
		for _, a := range messyInts(n) {
			checkInt(t, name("Normal", a), exact.Normal(a), n)
			checkInt(t, name("Neg", a), exact.Neg(a), new(big.Int).Neg(n))
			if got := exact.Sign(a); got != n.Sign() {
				t.Error("Sign of", a, "is", got)
			}
		}
	}
}

func checkPair(t *testing.T, m, n *big.Int, a, b api.Int) {
	t.Helper()
	checkInt(t, name("Add", m, n), exact.Add(a, b), new(big.Int).Add(m, n))
	checkInt(t, name("Sub", m, n), exact.Sub(a, b), new(big.Int).Sub(m, n))
	checkInt(t, name("Mul", m, n), exact.Mul(a, b), new(big.Int).Mul(m, n))
	checkInt(t, name("Gcd", m, n), exact.Gcd(a, b), new(big.Int).GCD(nil, nil, new(big.Int).Abs(m), new(big.Int).Abs(n)))
	if got := exact.Cmp(a, b); got != m.Cmp(n) {
		t.Error("Cmp of", m, n, "is", got)
	}
	checkDiv(t, m, n, a, b)
}

// checkDiv looks at the floor and the rest as math/big computes them from its own division, which rounds to 0.
func checkDiv(t *testing.T, m, n *big.Int, a, b api.Int) {
	t.Helper()
	q, r, e := exact.Div(a, b)
	if n.Sign() == 0 {
		checkErrno(t, name("Div", m, n), e, api.ErrZero)
		checkZeroInt(t, name("Div", m, n), q)
		checkZeroInt(t, name("Div", m, n), r)
		return
	}
	floor, rest := new(big.Int).QuoRem(m, n, new(big.Int))
	if rest.Sign() != 0 && rest.Sign() != n.Sign() {
		floor.Sub(floor, big.NewInt(1))
		rest.Add(rest, n)
	}
	checkErrno(t, name("Div", m, n), e, api.OK)
	checkInt(t, name("Div", m, n), q, floor)
	checkInt(t, name("Div's rest", m, n), r, rest)
}

func TestPairsOfEdges(t *testing.T) {
	l := edges()
	for i, m := range l {
		for j, n := range l {
			a, b := messyInts(m), messyInts(n)
			checkPair(t, m, n, a[0], b[0])
			checkPair(t, m, n, a[(i+j)%len(a)], b[(i+2*j)%len(b)])
		}
	}
}

func TestPairsOfRandomIntegers(t *testing.T) {
	r := rand.New(rand.NewSource(1))
	for i := range 4000 {
		words := 12
		if i%40 == 0 {
			words = 120
		}
		m, n := random(r, words), random(r, words)
		checkPair(t, m, n, intOf(m), intOf(n))
		common := random(r, words/2) // with it as a divisor of both, Gcd is not small, and some divisions have no rest
		m.Mul(m, common)
		n.Mul(n, common)
		checkPair(t, m, n, intOf(m), intOf(n))
	}
}

func TestPairsOfLongIntegers(t *testing.T) {
	r := rand.New(rand.NewSource(2))
	long := func(words int) *big.Int {
		n := random(r, words)
		return n.Add(n, new(big.Int).Lsh(big.NewInt(1), uint(32*words))) // at least so many words
	}
	for _, x := range [][2]int{{160, 160}, {161, 170}, {199, 330}, {320, 321}, {700, 171}, {163, 1}, {900, 40}} {
		for range 10 {
			m, n := long(x[0]), long(x[1])
			checkPair(t, m, n, intOf(m), intOf(n))
			checkPair(t, n, m, intOf(n), intOf(m))
		}
	}
}

// TestDivisionsThatGuessTooMuch has dividends whose quotient's words are first guessed too great, for words of 16, 32
// and 64 bits.
func TestDivisionsThatGuessTooMuch(t *testing.T) {
	for _, bits := range []uint{16, 32, 64} {
		half := new(big.Int).Lsh(big.NewInt(1), bits-1)
		most := new(big.Int).Sub(new(big.Int).Lsh(half, 1), big.NewInt(1))
		digits := map[string]*big.Int{"0": big.NewInt(0), "1": big.NewInt(1), "3": big.NewInt(3), "h": half, "l": new(big.Int).Sub(half, big.NewInt(1)), "m": most, "q": new(big.Int).Rsh(half, 2), "n": new(big.Int).Sub(most, big.NewInt(1))}
		build := func(s string) *big.Int { // the highest digit first
			n := new(big.Int)
			for _, c := range s {
				n.Or(n.Lsh(n, bits), digits[string(c)])
			}
			return n
		}
		for _, x := range [][2]string{{"lh00", "h01"}, {"h003", "q001"}, {"h0000", "h0m"}, {"hn0", "hm"}, {"hnm0", "hmm"}, {"0nh0", "hm"}, {"mmm0", "mmm"}, {"nmmm", "mmm"}, {"h00", "h1"}, {"h000", "h1m"}, {"lmmm", "hm"}} {
			m, n := build(x[0]), build(x[1])
			checkDiv(t, m, n, intOf(m), intOf(n))
		}
	}
}

// TestProductsThatCarryLate has products whose highest word comes from a carry alone, out of their lower halves.
func TestProductsThatCarryLate(t *testing.T) {
	one := big.NewInt(1)
	for _, bits := range []uint{320, 1600, 2560, 3200, 6400, 10240} {
		a := new(big.Int).Lsh(one, 2*bits)
		a.Sub(a, one)
		for _, word := range []uint{16, 32, 64} {
			b := new(big.Int).Lsh(one, 2*bits-word)
			b.Add(b, new(big.Int).Lsh(one, bits)).Sub(b, one)
			checkPair(t, a, b, intOf(a), intOf(b))
		}
	}
}

// tuned returns an integer of 192 bits whose product with u, limb by limb, has a carry into the highest bits of the
// second limb's product, if u is no power of 2: one of 2^64 numbers has it.
func tuned(u uint64) *big.Int {
	zeros := bits.TrailingZeros64(u)
	size := new(big.Int).Lsh(big.NewInt(1), uint(64-zeros))
	second := new(big.Int).ModInverse(new(big.Int).SetUint64(u>>zeros), size)
	second.Sub(size, second)
	n := new(big.Int).Lsh(big.NewInt(1), 64)
	n.Sub(n, big.NewInt(1))
	return n.Add(n, second.Lsh(second, 64)).Add(n, new(big.Int).Lsh(big.NewInt(12345), 128))
}

// TestGcdWithRareCarries has integers with a common divisor whose combinations after some of Euclid's steps, which
// depend on their highest bits, have rare carries, which depend on their lowest ones.
func TestGcdWithRareCarries(t *testing.T) {
	r := rand.New(rand.NewSource(20))
	for range 10 {
		common := new(big.Int).SetUint64(r.Uint64() | 1)
		high := []*big.Int{new(big.Int).SetUint64(r.Uint64() | 1<<63), new(big.Int).SetUint64(r.Uint64() >> 1)}
		a, b := high[0], high[1]
		u, v, nextU, nextV := big.NewInt(1), big.NewInt(0), big.NewInt(0), big.NewInt(1)
		for b.Sign() > 0 && nextV.BitLen() < 40 {
			q, rest := new(big.Int).QuoRem(a, b, new(big.Int))
			a, b = b, rest
			u, v, nextU, nextV = nextU, nextV, new(big.Int).Add(u, new(big.Int).Mul(q, nextU)), new(big.Int).Add(v, new(big.Int).Mul(q, nextV))
			if u.Sign() > 0 && v.Sign() > 0 {
				m := withLow(high[0], common, tuned(u.Uint64()))
				n := withLow(high[1], common, tuned(v.Uint64()))
				checkPair(t, m, n, intOf(m), intOf(n))
			}
		}
	}
}

// withLow returns a multiple of common, which is odd, with the highest bits of high times common, and the lowest of low.
func withLow(high, common, low *big.Int) *big.Int {
	size := new(big.Int).Lsh(big.NewInt(1), 192)
	n := new(big.Int).ModInverse(common, size)
	n.Mul(n, low).Mod(n, size).Add(n, new(big.Int).Lsh(high, 256))
	return n.Mul(n, common)
}

// TestGcdOfFibonacciNumbers has the most steps that numbers of their length can have, all with the quotient 1.
func TestGcdOfFibonacciNumbers(t *testing.T) {
	a, b := big.NewInt(0), big.NewInt(1)
	for range 2000 {
		a, b = b, new(big.Int).Add(a, b)
	}
	checkInt(t, "Gcd", exact.Gcd(intOf(a), intOf(b)), big.NewInt(1))
	seven := new(big.Int).Mul(b, big.NewInt(-7))
	checkInt(t, "Gcd", exact.Gcd(intOf(seven), intOf(new(big.Int).Mul(a, big.NewInt(7)))), big.NewInt(7))
}

func TestGcdWithZero(t *testing.T) {
	for _, n := range edges() {
		for i, zero := range messyInts(new(big.Int)) {
			a := messyInts(n)[i%4]
			checkInt(t, name("Gcd", n, 0), exact.Gcd(a, zero), new(big.Int).Abs(n))
			checkInt(t, name("Gcd", 0, n), exact.Gcd(zero, a), new(big.Int).Abs(n))
		}
	}
}

// P1.2

func TestDivByZero(t *testing.T) {
	for _, zero := range messyInts(new(big.Int)) {
		for _, a := range []string{"0", "1", "-18446744073709551616"} {
			checkDiv(t, number(a), new(big.Int), whole(a), zero)
		}
	}
}

func TestPower(t *testing.T) {
	for _, base := range edges() {
		for _, n := range []int{0, 1, 2, 3, 5, 8, 31} {
			for _, a := range messyInts(base) {
				got, e := exact.Power(a, n)
				checkErrno(t, name("Power", base, n), e, api.OK)
				checkInt(t, name("Power", base, n), got, new(big.Int).Exp(base, big.NewInt(int64(n)), nil))
			}
		}
	}
	for _, base := range []string{"0", "1", "-1", "2", "-2", "3", "-10", "4294967296", "-18446744073709551615"} {
		for _, n := range []int{api.MaxPower, api.MaxPower - 1} {
			got, e := exact.Power(whole(base), n)
			checkErrno(t, name("Power", base, n), e, api.OK)
			checkInt(t, name("Power", base, n), got, new(big.Int).Exp(number(base), big.NewInt(int64(n)), nil))
		}
	}
	for _, n := range []int{-1, api.MaxPower + 1, math.MaxInt, math.MinInt} {
		for _, base := range []string{"0", "1", "2"} {
			got, e := exact.Power(whole(base), n)
			checkErrno(t, name("Power", base, n), e, api.ErrArg)
			checkZeroInt(t, name("Power", base, n), got)
		}
	}
}

func TestRoot(t *testing.T) {
	r := rand.New(rand.NewSource(3))
	var l []*big.Int
	for n := range int64(300) {
		l = append(l, big.NewInt(n))
	}
	for _, n := range append(edges(), random(r, 40), random(r, 200)) {
		square := new(big.Int).Mul(n, n) // roots change just here
		l = append(l, new(big.Int).Abs(n), new(big.Int).Sub(square, big.NewInt(1)), square, new(big.Int).Add(square, big.NewInt(1)))
	}
	for _, n := range l {
		if n.Sign() < 0 {
			continue
		}
		for _, a := range messyInts(n) {
			got, e := exact.Root(a)
			checkErrno(t, name("Root", n), e, api.OK)
			checkInt(t, name("Root", n), got, new(big.Int).Sqrt(n))
		}
	}
	for _, s := range []string{"-1", "-4", "-18446744073709551616"} {
		for _, a := range messyInts(number(s)) {
			got, e := exact.Root(a)
			checkErrno(t, name("Root", s), e, api.ErrArg)
			checkZeroInt(t, name("Root", s), got)
		}
	}
}
