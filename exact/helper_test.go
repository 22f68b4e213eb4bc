package exact_test

import (
	"fmt"
	"math/big"
	"math/rand"
	"slices"
	"testing"

	"hodoscope/api"
	"hodoscope/exact"
)

// The tests compare with math/big, which shares no code with the package.

func bigOf(a api.Int) *big.Int {
	n := new(big.Int)
	for i := len(a.Words) - 1; i >= 0; i-- {
		n.Lsh(n, 32)
		n.Or(n, big.NewInt(int64(a.Words[i])))
	}
	if a.Neg {
		n.Neg(n)
	}
	return n
}

func intOf(n *big.Int) api.Int {
	a := api.Int{Neg: n.Sign() < 0}
	for rest := new(big.Int).Abs(n); rest.Sign() > 0; rest.Rsh(rest, 32) {
		a.Words = append(a.Words, uint32(new(big.Int).And(rest, big.NewInt(1<<32-1)).Uint64()))
	}
	return a
}

func ratOf(r api.Ratio) *big.Rat {
	den := bigOf(r.Den)
	if den.Sign() == 0 {
		return new(big.Rat)
	}
	return new(big.Rat).SetFrac(bigOf(r.Num), den)
}

func ratioOf(r *big.Rat) api.Ratio {
	return api.Ratio{Num: intOf(r.Num()), Den: intOf(r.Denom())}
}

func number(s string) *big.Int {
	n, ok := new(big.Int).SetString(s, 0)
	if !ok {
		panic(s)
	}
	return n
}

func rational(s string) *big.Rat {
	r, ok := new(big.Rat).SetString(s)
	if !ok {
		panic(s)
	}
	return r
}

func whole(s string) api.Int   { return intOf(number(s)) }
func ratio(s string) api.Ratio { return ratioOf(rational(s)) }

func power(base, n int64) *big.Int {
	return new(big.Int).Exp(big.NewInt(base), big.NewInt(n), nil)
}

// messyInts are ways to write n: the normal form, with words 0 at the end, and for 0 with Neg.
func messyInts(n *big.Int) []api.Int {
	normal := intOf(n)
	l := []api.Int{normal}
	for zeros := 1; zeros <= 3; zeros++ {
		words := append(slices.Clone(normal.Words), make([]uint32, zeros)...)
		l = append(l, api.Int{Neg: normal.Neg || n.Sign() == 0, Words: words})
	}
	if n.Sign() == 0 {
		l = append(l, api.Int{Neg: true}, api.Int{Words: []uint32{}})
	}
	return l
}

// messyRatios are ways to write r: the normal form, with common divisors, with a negative Den, with words 0 at the end,
// and for 0 with the Den 0.
func messyRatios(r *big.Rat) []api.Ratio {
	l := []api.Ratio{ratioOf(r)}
	for i, factor := range []string{"-1", "6", "-0x300000000", "340282366920938463463374607431768211456"} {
		f := number(factor)
		num, den := messyInts(new(big.Int).Mul(r.Num(), f)), messyInts(new(big.Int).Mul(r.Denom(), f))
		l = append(l, api.Ratio{Num: num[i], Den: den[(i+1)%4]})
	}
	if r.Sign() == 0 {
		l = append(l, api.Ratio{}, api.Ratio{Num: whole("7")}, api.Ratio{Num: whole("-7"), Den: api.Int{Neg: true, Words: []uint32{0, 0}}})
	}
	return l
}

func normalInt(a api.Int) bool {
	if len(a.Words) == 0 {
		return !a.Neg
	}
	return a.Words[len(a.Words)-1] != 0
}

func checkInt(t *testing.T, what string, got api.Int, want *big.Int) {
	t.Helper()
	if !normalInt(got) {
		t.Errorf("%s: not in normal form: %v", what, got)
	}
	if bigOf(got).Cmp(want) != 0 {
		t.Errorf("%s: %v, want %v", what, bigOf(got), want)
	}
}

func checkRatio(t *testing.T, what string, got api.Ratio, want *big.Rat) {
	t.Helper()
	if !normalInt(got.Num) || !normalInt(got.Den) {
		t.Errorf("%s: not in normal form: %v", what, got)
	}
	if bigOf(got.Num).Cmp(want.Num()) != 0 || bigOf(got.Den).Cmp(want.Denom()) != 0 {
		t.Errorf("%s: %v / %v, want %v", what, bigOf(got.Num), bigOf(got.Den), want)
	}
}

func checkZeroInt(t *testing.T, what string, got api.Int) {
	t.Helper()
	if got.Neg || len(got.Words) != 0 {
		t.Errorf("%s: %v is not the zero value", what, got)
	}
}

func checkZeroRatio(t *testing.T, what string, got api.Ratio) {
	t.Helper()
	checkZeroInt(t, what, got.Num)
	checkZeroInt(t, what, got.Den)
}

func checkErrno(t *testing.T, what string, got, want api.Errno) {
	t.Helper()
	if got != want {
		t.Errorf("%s: error %d, want %d", what, got, want)
	}
}

// edges are integers at which lengths, signs and carries change.
func edges() []*big.Int {
	var l []*big.Int
	for _, s := range []string{"0", "1", "2", "3", "6", "7", "10", "999999999", "1000000000", "9999999999999999999", "10000000000000000000"} {
		l = append(l, number(s))
	}
	for _, bits := range []uint{31, 32, 33, 63, 64, 65, 95, 96, 127, 128, 160, 192} {
		n := new(big.Int).Lsh(big.NewInt(1), bits)
		l = append(l, new(big.Int).Sub(n, big.NewInt(1)), n, new(big.Int).Add(n, big.NewInt(1)))
	}
	for _, n := range l[1:] {
		l = append(l, new(big.Int).Neg(n))
	}
	return l
}

// random returns an integer of up to words words, many of which are at their limits.
func random(r *rand.Rand, words int) *big.Int {
	special := []uint32{0, 0, 1, 1<<31 - 1, 1 << 31, 1<<32 - 2, 1<<32 - 1, 1<<32 - 1}
	a := api.Int{Neg: r.Intn(2) == 1, Words: make([]uint32, r.Intn(words+1))}
	mixed := r.Intn(3)
	for i := range a.Words {
		a.Words[i] = r.Uint32()
		if r.Intn(3) < mixed {
			a.Words[i] = special[r.Intn(len(special))]
		}
	}
	return bigOf(a)
}

func randomRat(r *rand.Rand, words int) *big.Rat {
	den := random(r, words)
	if den.Sign() == 0 {
		den = big.NewInt(1 + r.Int63n(9))
	}
	return new(big.Rat).SetFrac(random(r, words), den)
}

// edgeRats are ratios at which signs, halves and lengths change.
func edgeRats() []*big.Rat {
	var l []*big.Rat
	for _, s := range []string{"0", "1", "1/2", "1/3", "2/3", "3/2", "5/2", "7/3", "12", "1/4", "3/4", "99/100", "1/1000000007", "4294967296/4294967295",
		"18446744073709551617/2", "1/18446744073709551616", "340282366920938463463374607431768211455/18446744073709551629"} {
		l = append(l, rational(s))
	}
	for _, r := range l[1:] {
		l = append(l, new(big.Rat).Neg(r))
	}
	return l
}

func name(call string, args ...any) string {
	s := call
	for _, a := range args {
		s += fmt.Sprintf(" %v", a)
	}
	return s
}

func div(a, b string) (string, string, api.Errno) {
	q, r, e := exact.Div(whole(a), whole(b))
	return exact.Text(q), exact.Text(r), e
}
