package linear_test

import (
	"slices"
	"testing"

	"hodoscope/api"
	"hodoscope/linear"
)

// The rows of the chapter's table of examples.

func TestExamplesOfElimination(t *testing.T) {
	m := matrix("1 2 3; 2 4 7")
	form, pivots, e := linear.Reduce(m)
	checkErrno(t, "Reduce", e, api.OK)
	checkMatrix(t, "Reduce", form, matrix("1 2 0; 0 0 1"))
	if !slices.Equal(pivots, []int{0, 2}) {
		t.Error("pivots", pivots)
	}
	checkMatrix(t, "Null", must(linear.Null(m)), matrix("-2; 1; 0"))
	det, e := linear.Det(matrix("1 2; 3 4"))
	checkErrno(t, "Det", e, api.OK)
	checkRatio(t, "Det", det, ratio("-2"))
	checkMatrix(t, "Inverse", must(linear.Inverse(matrix("1 2; 3 4"))), matrix("-2 1; 3/2 -1/2"))
	for s, want := range map[string]int{"2 1; 1 2": 2, "1 1; 1 1": 1, "1 2; 2 1": 0} {
		if kind, e := linear.Definite(matrix(s)); kind != want || e != api.OK {
			t.Error("Definite of", s, "is", kind, e)
		}
	}
}

func TestExamplesOfSolutions(t *testing.T) {
	a := matrix("1; 2; 3")
	checkMatrix(t, "Solve", must(linear.Solve(a, matrix("2; 4; 6"))), matrix("2"))
	x, e := linear.Solve(a, matrix("2; 4; 7"))
	checkFails(t, "Solve", api.ErrSingular, x, e)
	x, cov, chi, e := linear.LeastSquares(matrix("1 0; 1 1; 1 2"), matrix("0; 1; 5"), ratios("1 1 1"))
	checkErrno(t, "LeastSquares", e, api.OK)
	checkMatrix(t, "LeastSquares: x", x, matrix("-1/2; 5/2"))
	checkMatrix(t, "LeastSquares: cov", cov, matrix("5/6 -1/2; -1/2 1/2"))
	checkRatio(t, "LeastSquares: chi", chi, ratio("3/2"))
}

func checkEstimate(t *testing.T, what string, f api.Info, x, cov, chi string) {
	t.Helper()
	m, v, c, e := linear.Estimate(f)
	checkErrno(t, what, e, api.OK)
	checkMatrix(t, what+": x", m, matrix(x))
	checkMatrix(t, what+": cov", v, matrix(cov))
	checkRatio(t, what+": chi", c, ratio(chi))
}

func TestExamplesOfInformation(t *testing.T) {
	f := mustInfo(linear.Blank(1))
	f = mustInfo(linear.Measure(f, matrix("1"), matrix("3"), matrix("2")))
	f = mustInfo(linear.Measure(f, matrix("1"), matrix("5"), matrix("2")))
	checkEstimate(t, "Estimate", f, "4", "1", "1")
	if f.Count != 2 {
		t.Error("Count", f.Count)
	}
	checkEstimate(t, "Estimate of Move", mustInfo(linear.Move(f, matrix("2"), matrix("1"))), "8", "5", "1")
	g := mustInfo(linear.Measure(mustInfo(linear.Blank(2)), unit(2), matrix("1; 2"), unit(2)))
	x, factors, chi, e := linear.Constrain(g, matrix("1 1"), matrix("1"))
	checkErrno(t, "Constrain", e, api.OK)
	checkMatrix(t, "Constrain: x", x, matrix("0; 1"))
	checkMatrix(t, "Constrain: factors", factors, matrix("1"))
	checkRatio(t, "Constrain: chi", chi, ratio("2"))
}
