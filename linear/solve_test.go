package linear_test

import (
	"math/big"
	"math/rand"
	"slices"
	"testing"

	"hodoscope/api"
	"hodoscope/exact"
	"hodoscope/linear"
)

// P2.5

// beside returns a's columns, then b's.
func beside(a, b api.Matrix) api.Matrix {
	x, y := tableOf(a), tableOf(b)
	for i := range x {
		x[i] = append(x[i], y[i]...)
	}
	return x.matrix(a.Cols + b.Cols)
}

func checkSolve(t *testing.T, a, b api.Matrix) {
	t.Helper()
	what := "Solve of " + show(a) + " and " + show(b)
	got, e := linear.Solve(a, b)
	form, pivots := plainReduce(beside(a, b))
	if len(pivots) != a.Cols || a.Cols > 0 && pivots[a.Cols-1] != a.Cols-1 {
		checkFails(t, what, api.ErrSingular, got, e)
		return
	}
	checkErrno(t, what, e, api.OK)
	checkMatrix(t, what, got, plainPick(form, span(0, a.Cols), span(a.Cols, a.Cols+b.Cols)))
	checkMatrix(t, what+", times a", plainMul(a, got), b)
}

func TestSolve(t *testing.T) {
	r := rand.New(rand.NewSource(4))
	for range 300 {
		rows, cols, sides := r.Intn(6), r.Intn(5), 1+r.Intn(3)
		a := random(r, rows, cols)
		checkSolve(t, a, random(r, rows, sides))
		checkSolve(t, a, plainMul(a, random(r, cols, sides)))
		weak := poor(r, rows, cols, r.Intn(cols+1))
		checkSolve(t, weak, plainMul(weak, random(r, cols, sides)))
	}
	for _, x := range [][2]string{{"2", "3"}, {"0", "0"}, {"0", "1"}, {"1; 2; 3", "2; 4; 6"}, {"1; 2; 3", "2; 4; 7"}, {"0; 0; 3", "0; 0; 7"}, {"0; 0; 3", "0; 1; 7"},
		{"1 2", "3"}, {"1 0; 0 1; 1 1", "1 2; 3 4; 4 6"}, {"1 0; 0 1; 1 1", "1 2; 3 4; 4 7"}, {"0 1; 1 0", "1/2; 1/3"}, {"1 1; 1 1", "1; 1"}, {"1 1; 1 1", "1; 2"}} {
		checkSolve(t, matrix(x[0]), matrix(x[1]))
	}
}

func TestSolveWithoutRowsOrColumns(t *testing.T) {
	for _, x := range []struct{ a, b, x api.Matrix }{
		{empty(0, 0), empty(0, 0), empty(0, 0)},
		{empty(0, 0), empty(0, 2), empty(0, 2)},
		{empty(2, 0), matrix("0 0 0; 0 0 0"), empty(0, 3)},
		{empty(2, 0), empty(2, 0), empty(0, 0)},
		{unit(2), empty(2, 0), empty(2, 0)},
		{matrix("1 1; 1 1"), empty(2, 0), empty(2, 0)}, // there is one matrix of that size only
		{empty(0, 2), empty(0, 0), empty(2, 0)},
	} {
		got, e := linear.Solve(x.a, x.b)
		checkErrno(t, "Solve", e, api.OK)
		checkMatrix(t, "Solve of "+show(x.a)+" and "+show(x.b), got, x.x)
	}
	for _, x := range []struct{ a, b api.Matrix }{{empty(2, 0), matrix("0; 1")}, {empty(0, 1), empty(0, 1)}, {empty(0, 3), empty(0, 2)}} {
		got, e := linear.Solve(x.a, x.b)
		checkFails(t, "Solve of "+show(x.a)+" and "+show(x.b), api.ErrSingular, got, e)
	}
	for _, x := range []struct{ a, b api.Matrix }{{unit(2), matrix("1")}, {matrix("1 2"), matrix("1; 2")}, {empty(0, 2), matrix("1 2")}, {matrix("0"), empty(0, 0)}} {
		got, e := linear.Solve(x.a, x.b)
		checkFails(t, "Solve of "+show(x.a)+" and "+show(x.b), api.ErrShape, got, e)
	}
}

func TestSolveOfMaxOrder(t *testing.T) {
	n := api.MaxOrder
	b := filled(n, n, func(i, j int) *big.Rat { return big.NewRat(int64(i*i-j), int64(1+j)) }).matrix(n)
	x, e := linear.Solve(tent(n), b)
	checkErrno(t, "Solve", e, api.OK)
	checkMatrix(t, "Solve, times a", plainMul(tent(n), x), b)
}

// weights returns the diagonal matrix of w.
func weights(w []api.Ratio) api.Matrix {
	return filled(len(w), len(w), func(i, j int) *big.Rat {
		if i == j {
			return rat(w[i])
		}
		return new(big.Rat)
	}).matrix(len(w))
}

// checkLeastSquares checks that a' W (a x - b) is 0: only the least sum has that.
func checkLeastSquares(t *testing.T, a, b api.Matrix, w []api.Ratio) {
	t.Helper()
	what := "LeastSquares of " + show(a) + " and " + show(b)
	x, cov, chi, e := linear.LeastSquares(a, b, w)
	aw := plainMul(plainTranspose(a), weights(w))
	inverse, is := plainInverse(plainMul(aw, a))
	if !is {
		checkFails(t, what, api.ErrSingular, x, cov, chi, e)
		return
	}
	checkErrno(t, what, e, api.OK)
	checkMatrix(t, what+": cov", cov, inverse)
	checkMatrix(t, what+": x", x, plainMul(inverse, plainMul(aw, b)))
	rest := plainAdd(plainMul(a, x), -1, b)
	checkMatrix(t, what+": slope", plainMul(aw, rest), blanks(a.Cols, 1))
	checkRatio(t, what+": chi", chi, plainRatio(single(plainMul(plainTranspose(rest), plainMul(weights(w), rest)))))
}

func TestLeastSquares(t *testing.T) {
	r := rand.New(rand.NewSource(5))
	for range 200 {
		rows, cols := r.Intn(7), r.Intn(5)
		var w []api.Ratio
		for range rows {
			x, _ := exact.Over(1+r.Int63n(5), 1+r.Int63n(5))
			w = append(w, x)
		}
		checkLeastSquares(t, random(r, rows, cols), random(r, rows, 1), w)
		checkLeastSquares(t, poor(r, rows, cols, r.Intn(4)), random(r, rows, 1), w)
	}
	checkLeastSquares(t, empty(0, 0), empty(0, 1), nil)
	checkLeastSquares(t, empty(0, 1), empty(0, 1), nil)
	checkLeastSquares(t, empty(3, 0), matrix("1; 2; 3"), ratios("1 1/2 1/3"))
	checkLeastSquares(t, tent(20), plainPick(tent(20), span(0, 20), []int{3}), slices.Repeat(ratios("2/3"), 20))
}

func TestLeastSquaresErrors(t *testing.T) {
	a, b, w := matrix("1 0; 1 1; 1 2"), matrix("0; 1; 5"), ratios("1 1 1")
	singular := matrix("1 1; 1 1; 1 1")
	for _, x := range []struct {
		a, b api.Matrix
		w    []api.Ratio
		e    api.Errno
	}{
		{a, matrix("0; 1"), w, api.ErrShape},
		{a, matrix("0 1 5"), w, api.ErrShape},
		{a, matrix("0 0; 1 1; 5 5"), w, api.ErrShape},
		{a, empty(3, 0), w, api.ErrShape},
		{a, b, w[:2], api.ErrShape},
		{a, b, nil, api.ErrShape},
		{a, b, ratios("1 1 1 1"), api.ErrShape},
		{a, b, ratios("0 1"), api.ErrShape},
		{a, b, ratios("1 0 1"), api.ErrWeight},
		{a, b, ratios("1 1 -1/2"), api.ErrWeight},
		{a, b, []api.Ratio{w[0], w[1], {Num: exact.Of(3)}}, api.ErrWeight},
		{singular, b, ratios("1 1 0"), api.ErrWeight},
		{empty(1, 0), matrix("1"), ratios("0"), api.ErrWeight},
		{singular, b, w, api.ErrSingular},
		{matrix("1 2 3"), matrix("1"), ratios("1"), api.ErrSingular},
	} {
		m, cov, chi, e := linear.LeastSquares(x.a, x.b, x.w)
		checkFails(t, "LeastSquares", x.e, m, cov, chi, e)
	}
}
