package linear_test

import (
	"math"
	"math/big"
	"math/rand"
	"slices"
	"testing"

	"hodoscope/api"
	"hodoscope/linear"
)

// minus returns the indices below n that are not in l, ascending.
func minus(n int, l []int) []int {
	return slices.DeleteFunc(span(0, n), func(i int) bool { return slices.Contains(l, i) })
}

// some returns some of the indices below n, in any order.
func some(r *rand.Rand, n int) []int {
	return r.Perm(n)[:r.Intn(n+1)]
}

// loose returns an information about n parameters of which not all may be known.
func loose(r *rand.Rand, n int) api.Info {
	f := randomInfo(r, n)
	switch r.Intn(4) {
	case 0:
		f.N = gram(r, n, r.Intn(n+1))
	case 1:
		half := random(r, n, n)
		f.N = plainAdd(half, 1, plainTranspose(half))
	}
	return f
}

// less returns r less f.
func less(r api.Ratio, f *big.Rat) api.Ratio {
	return plainRatio(new(big.Rat).Sub(rat(r), f))
}

// P2.8

func checkMarginal(t *testing.T, f api.Info, keep []int) {
	t.Helper()
	got, e := linear.Marginal(f, keep)
	rest := minus(f.N.Rows, keep)
	d, is := plainInverse(plainPick(f.N, rest, rest))
	if !is {
		checkFails(t, "Marginal", api.ErrSingular, got, e)
		return
	}
	b, r, s := plainPick(f.N, keep, rest), plainPick(f.R, keep, []int{0}), plainPick(f.R, rest, []int{0})
	bd := plainMul(b, d)
	checkErrno(t, "Marginal", e, api.OK)
	checkInfo(t, "Marginal of "+showInfo(f), got, api.Info{
		N:     plainAdd(plainPick(f.N, keep, keep), -1, plainMul(bd, plainTranspose(b))),
		R:     plainAdd(r, -1, plainMul(bd, s)),
		C:     less(f.C, single(plainMul(plainTranspose(s), plainMul(d, s)))),
		Count: f.Count - len(rest),
	})
}

func TestMarginal(t *testing.T) {
	r := rand.New(rand.NewSource(9))
	for range 200 {
		n := r.Intn(6)
		f := loose(r, n)
		checkMarginal(t, f, some(r, n))
		checkMarginal(t, f, r.Perm(n))
		checkMarginal(t, f, nil)
	}
	checkMarginal(t, messyInfo(), []int{1})
	f := api.Info{N: matrix("1 0 0; 0 0 0; 0 0 1"), R: matrix("1; 2; 3"), C: ratio("9"), Count: 5}
	got, e := linear.Marginal(f, []int{2})
	checkFails(t, "Marginal over what is not known", api.ErrSingular, got, e)
	got, e = linear.Marginal(f, []int{2, 1})
	checkErrno(t, "Marginal of what is not known", e, api.OK)
	checkInfo(t, "Marginal of what is not known", got, api.Info{N: matrix("1 0; 0 0"), R: matrix("3; 2"), C: ratio("8"), Count: 4})
}

// badIndices are lists that are no lists of different indices below 3.
func badIndices() [][]int {
	return [][]int{{-1}, {3}, {0, 3}, {0, 0}, {1, 2, 1}, {0, 1, 2, 0}, {math.MinInt}, {math.MaxInt}, slices.Repeat([]int{2}, 64)}
}

func TestIndicesOfParameters(t *testing.T) {
	for _, n := range []api.Matrix{unit(3), blanks(3, 3)} {
		f := api.Info{N: n, R: matrix("1; 2; 3"), C: ratio("9")}
		for _, l := range badIndices() {
			got, e := linear.Marginal(f, l)
			checkFails(t, "Marginal", api.ErrRange, got, e)
			got, e = linear.Condition(f, l, blanks(len(l), 1))
			checkFails(t, "Condition", api.ErrRange, got, e)
		}
	}
	got, e := linear.Marginal(api.Info{N: empty(0, 0), R: empty(0, 1)}, []int{0})
	checkFails(t, "Marginal of no parameters", api.ErrRange, got, e)
}

func TestRestrictedToMaxOrder(t *testing.T) {
	n := api.MaxOrder
	f := api.Info{N: tent(n), R: blanks(n, 1), C: ratio("1"), Count: 100}
	all := span(0, n)
	got, e := linear.Marginal(f, all)
	checkErrno(t, "Marginal of all", e, api.OK)
	checkInfo(t, "Marginal of all", got, f)
	got, e = linear.Marginal(f, []int{0})
	checkErrno(t, "Marginal", e, api.OK)
	checkInfo(t, "Marginal", got, api.Info{N: matrix("65/64"), R: matrix("0"), C: ratio("1"), Count: 37})
	got, e = linear.Condition(f, all, blanks(n, 1))
	checkErrno(t, "Condition of all", e, api.OK)
	checkInfo(t, "Condition of all", got, api.Info{N: empty(0, 0), R: empty(0, 1), C: ratio("1"), Count: 100})
}

// whole returns the vector that has the values at these indices, and the others of rest.
func whole(n int, at []int, values, rest api.Matrix) api.Matrix {
	x := blanks(n, 1)
	for k, i := range at {
		x.Cells[i] = values.Cells[k]
	}
	for k, i := range minus(n, at) {
		x.Cells[i] = rest.Cells[k]
	}
	return x
}

func TestCondition(t *testing.T) {
	r := rand.New(rand.NewSource(10))
	for range 200 {
		n := r.Intn(6)
		f, at := loose(r, n), some(r, n)
		values, rest := random(r, len(at), 1), minus(n, at)
		got, e := linear.Condition(f, at, values)
		checkErrno(t, "Condition", e, api.OK)
		zero := plainValue(f, whole(n, at, values, blanks(len(rest), 1)))
		checkInfo(t, "Condition of "+showInfo(f), got, api.Info{
			N:     plainPick(f.N, rest, rest),
			R:     plainAdd(plainPick(f.R, rest, []int{0}), -1, plainMul(plainPick(f.N, rest, at), values)),
			C:     plainRatio(zero),
			Count: f.Count,
		})
		x := random(r, len(rest), 1)
		checkRatio(t, "Condition: the sum of squares", plainRatio(plainValue(got, x)), plainRatio(plainValue(f, whole(n, at, values, x))))
	}
	got, e := linear.Condition(messyInfo(), nil, empty(0, 1))
	checkErrno(t, "Condition of none", e, api.OK)
	checkInfo(t, "Condition of none", got, api.Info{N: matrix("2 1/2; 1/2 3"), R: matrix("0; -1"), C: ratio("-3/2"), Count: -7})
}

func TestConditionErrors(t *testing.T) {
	f := api.Info{N: unit(3), R: matrix("1; 2; 3"), C: ratio("9")}
	for _, x := range []struct {
		at     []int
		values api.Matrix
	}{
		{[]int{0}, matrix("1; 2")}, {[]int{0, 1}, matrix("1")}, {[]int{0, 1}, matrix("1 2")}, {[]int{0, 1}, unit(2)}, {nil, matrix("1")}, {nil, empty(0, 0)},
		{[]int{0}, empty(1, 0)}, {[]int{7}, matrix("1; 2")}, {slices.Repeat([]int{7}, api.MaxOrder+1), blanks(api.MaxOrder+1, 1)},
	} {
		got, e := linear.Condition(f, x.at, x.values)
		checkFails(t, "Condition with "+show(x.values), api.ErrShape, got, e)
	}
}

// P2.9

func checkMove(t *testing.T, f api.Info, tr, q api.Matrix) {
	t.Helper()
	what := "Move of " + showInfo(f) + " by " + show(tr) + " and " + show(q)
	got, e := linear.Move(f, tr, q)
	u, is := plainInverse(tr)
	if !is {
		checkFails(t, what, api.ErrSingular, got, e)
		return
	}
	if plainDefinite(q) == 0 {
		checkFails(t, what, api.ErrWeight, got, e)
		return
	}
	m, s := plainMul(plainTranspose(u), plainMul(f.N, u)), plainMul(plainTranspose(u), f.R)
	p, is := plainInverse(plainAdd(unit(f.N.Rows), 1, plainMul(m, q)))
	if !is {
		checkFails(t, what, api.ErrSingular, got, e)
		return
	}
	checkErrno(t, what, e, api.OK)
	checkInfo(t, what, got, api.Info{
		N:     plainMul(p, m),
		R:     plainMul(p, s),
		C:     less(f.C, single(plainMul(plainTranspose(s), plainMul(q, plainMul(p, s))))),
		Count: f.Count,
	})
	checkErrno(t, what+", checked", linear.CheckInfo(got), api.OK)
}

func TestMove(t *testing.T) {
	r := rand.New(rand.NewSource(11))
	for range 150 {
		n := r.Intn(5)
		f, tr := loose(r, n), random(r, n, n)
		checkMove(t, f, tr, gram(r, n, r.Intn(n+1)))
		checkMove(t, f, tr, firm(r, n))
		checkMove(t, f, tr, blanks(n, n))
		checkMove(t, f, tr, random(r, n, n))
		checkMove(t, f, poor(r, n, n, max(0, n-1)), random(r, n, n))
	}
	checkMove(t, messyInfo(), matrix("1 2; 0 1"), matrix("1 1; 1 1"))
	checkMove(t, api.Info{N: matrix("-1"), R: matrix("2"), C: ratio("1")}, matrix("1"), matrix("1")) // P is 0
	checkMove(t, api.Info{N: matrix("-4"), R: matrix("2"), C: ratio("1")}, matrix("-2"), matrix("1"))
	checkMove(t, api.Info{N: matrix("-4"), R: matrix("2"), C: ratio("1")}, matrix("-2"), matrix("2"))
}

func TestMoveErrors(t *testing.T) {
	f := api.Info{N: unit(2), R: matrix("1; 2"), C: ratio("9")}
	for _, x := range []struct {
		t, q api.Matrix
		e    api.Errno
	}{
		{matrix("1"), unit(2), api.ErrShape},
		{unit(2), matrix("1"), api.ErrShape},
		{matrix("1 0 0; 0 1 0"), unit(2), api.ErrShape},
		{unit(3), unit(3), api.ErrShape},
		{unit(2), matrix("1 0; 0 1; 0 0"), api.ErrShape},
		{blanks(2, 2), unit(3), api.ErrShape},
		{blanks(2, 2), unit(2), api.ErrSingular},
		{matrix("1 2; 2 4"), matrix("-1 0; 0 1"), api.ErrSingular},
		{unit(2), matrix("-1 0; 0 1"), api.ErrWeight},
		{unit(2), matrix("1 1; 0 1"), api.ErrWeight},
		{unit(2), matrix("0 1; 1 0"), api.ErrWeight},
	} {
		got, e := linear.Move(f, x.t, x.q)
		checkFails(t, "Move by "+show(x.t)+" and "+show(x.q), x.e, got, e)
	}
	got, e := linear.Move(api.Info{N: matrix("-1"), R: matrix("1")}, matrix("1"), matrix("1"))
	checkFails(t, "Move where P has no inverse", api.ErrSingular, got, e)
	got, e = linear.Move(api.Info{N: matrix("-1"), R: matrix("1")}, matrix("1"), matrix("-1"))
	checkFails(t, "Move with a noise below 0", api.ErrWeight, got, e)
}

func TestMoveOfMaxOrder(t *testing.T) {
	n := api.MaxOrder
	y := plainPick(unit(n), span(0, n), []int{7})
	f := api.Info{N: unit(n), R: y, C: ratio("3"), Count: 80}
	moved, e := linear.Move(f, unit(n), plainAdd(tent(n), -1, unit(n)))
	checkFails(t, "Move with a noise below 0", api.ErrWeight, moved, e)
	moved, e = linear.Move(f, plainAdd(unit(n), 1, unit(n)), tent(n))
	checkErrno(t, "Move", e, api.OK)
	x, cov, chi, e := linear.Estimate(moved)
	checkErrno(t, "Estimate", e, api.OK)
	checkMatrix(t, "x", x, plainAdd(y, 1, y))
	checkMatrix(t, "cov", cov, plainAdd(tent(n), 4, unit(n)))
	checkRatio(t, "chi", chi, ratio("2"))
}

// P2.10

func checkConstrain(t *testing.T, f api.Info, a, b api.Matrix) {
	t.Helper()
	what := "Constrain of " + showInfo(f) + " by " + show(a) + " and " + show(b)
	x, factors, chi, e := linear.Constrain(f, a, b)
	n := f.N.Rows
	all := beside(f.N, plainTranspose(a))
	all.Cells = append(all.Cells, beside(a, blanks(a.Rows, a.Rows)).Cells...)
	all.Rows += a.Rows
	if _, is := plainInverse(all); !is {
		checkFails(t, what, api.ErrSingular, x, factors, chi, e)
		return
	}
	checkErrno(t, what, e, api.OK)
	if x.Rows != n || x.Cols != 1 || factors.Rows != a.Rows || factors.Cols != 1 {
		t.Fatal(what, show(x), show(factors))
	}
	checkMatrix(t, what+": a x", plainMul(a, x), b)
	checkMatrix(t, what+": N x + a' l", plainAdd(plainMul(f.N, x), 1, plainMul(plainTranspose(a), factors)), f.R)
	checkRatio(t, what+": chi", chi, plainRatio(plainValue(f, x)))
	checkMatrix(t, what+": x", x, x)
	checkMatrix(t, what+": factors", factors, factors)
}

func TestConstrain(t *testing.T) {
	r := rand.New(rand.NewSource(12))
	for range 200 {
		n, rows := r.Intn(6), r.Intn(4)
		f := loose(r, n)
		checkConstrain(t, f, random(r, rows, n), random(r, rows, 1))
		checkConstrain(t, f, poor(r, rows, n, 1), random(r, rows, 1))
	}
	checkConstrain(t, messyInfo(), matrix("1/2 -1"), matrix("3"))
	checkConstrain(t, api.Info{N: empty(0, 0), R: empty(0, 1), C: ratio("7/3")}, empty(0, 0), empty(0, 1))
	checkConstrain(t, api.Info{N: blanks(1, 1), R: matrix("5"), C: ratio("7/3")}, matrix("2"), matrix("3"))       // only the constraint tells x
	checkConstrain(t, api.Info{N: blanks(1, 1), R: matrix("5"), C: ratio("7/3")}, empty(0, 1), empty(0, 1))       // nothing tells it
	checkConstrain(t, api.Info{N: unit(2), R: matrix("5; 6"), C: ratio("1")}, matrix("1 1; 2 2"), matrix("1; 2")) // twice the same
	checkConstrain(t, api.Info{N: unit(2), R: matrix("5; 6"), C: ratio("1")}, matrix("1 1; 2 2"), matrix("1; 3")) // not both
}

func TestConstrainErrors(t *testing.T) {
	f := api.Info{N: unit(2), R: matrix("1; 2"), C: ratio("9")}
	for _, x := range [][2]api.Matrix{{matrix("1"), matrix("1")}, {matrix("1 1 1"), matrix("1")}, {matrix("1 1"), matrix("1; 2")}, {matrix("1 1"), matrix("1 2")},
		{unit(2), unit(2)}, {empty(0, 2), empty(0, 0)}, {empty(0, 2), matrix("1")}, {matrix("1; 1"), matrix("1; 1")}} {
		m, factors, chi, e := linear.Constrain(f, x[0], x[1])
		checkFails(t, "Constrain by "+show(x[0])+" and "+show(x[1]), api.ErrShape, m, factors, chi, e)
	}
}

func TestConstrainOfMaxOrder(t *testing.T) {
	n := api.MaxOrder - 2
	f := api.Info{N: unit(n), R: blanks(n, 1), C: ratio("1"), Count: 80}
	three := plainPick(unit(n), span(0, 3), span(0, n))
	checkConstrain(t, f, plainPick(three, span(0, 2), span(0, n)), matrix("4; 5"))
	x, factors, chi, e := linear.Constrain(f, three, matrix("4; 5; 6"))
	checkFails(t, "Constrain with a row too many", api.ErrShape, x, factors, chi, e)
}
