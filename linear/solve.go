package linear

import (
	"hodoscope/api"
	"hodoscope/exact"
)

// solve returns the only x with a x = b; false unless there is exactly one.
func solve(a, b api.Matrix) (api.Matrix, bool) {
	if b.Cols == 0 { // then x has no cells that could differ, whatever a is
		return zeros(a.Cols, 0), true
	}
	rows := rowsOf(beside(a, b))
	pivots := reduce(rows)
	if len(pivots) != a.Cols || a.Cols > 0 && pivots[a.Cols-1] != a.Cols-1 {
		return api.Matrix{}, false
	}
	return build(a.Cols, b.Cols, func(i, j int) api.Ratio { return rows[i].over(i, a.Cols+j) }), true
}

func inverse(m api.Matrix) (api.Matrix, bool) {
	return solve(m, identity(m.Rows))
}

// Inverse returns the inverse; ErrSingular if there is none.
func Inverse(m api.Matrix) (api.Matrix, api.Errno) {
	if !square(m) {
		return api.Matrix{}, api.ErrShape
	}
	x, is := inverse(m)
	if !is {
		return api.Matrix{}, api.ErrSingular
	}
	return x, api.OK
}

// Solve returns the only x with a x = b; ErrSingular unless there is exactly one.
func Solve(a, b api.Matrix) (api.Matrix, api.Errno) {
	if !valid(a, b) || a.Rows != b.Rows {
		return api.Matrix{}, api.ErrShape
	}
	x, is := solve(a, b)
	if !is {
		return api.Matrix{}, api.ErrSingular
	}
	return x, api.OK
}

// LeastSquares returns the vector for which the weighted sum of the squares of a x - b is least, its covariance, and
// that sum.
func LeastSquares(a, b api.Matrix, w []api.Ratio) (x, cov api.Matrix, chi api.Ratio, e api.Errno) {
	if !valid(a) || !vector(b, a.Rows) || len(w) != a.Rows {
		return api.Matrix{}, api.Matrix{}, api.Ratio{}, api.ErrShape
	}
	for _, r := range w {
		if exact.Signum(r) <= 0 {
			return api.Matrix{}, api.Matrix{}, api.Ratio{}, api.ErrWeight
		}
	}
	weighted := func(m api.Matrix) api.Matrix {
		return build(m.Rows, m.Cols, func(i, j int) api.Ratio { return exact.Times(w[i], m.Cells[i*m.Cols+j]) })
	}
	return estimate(measured(a, b, weighted(a), weighted(b)))
}
