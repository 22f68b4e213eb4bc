package linear

import (
	"hodoscope/api"
	"hodoscope/exact"
)

func validInfo(f api.Info) bool {
	return symmetric(f.N) && vector(f.R, f.N.Rows)
}

// measured returns the information of the sum of squares of y - h x alone. wh and wy are h and y with the weights before
// them.
func measured(h, y, wh, wy api.Matrix) api.Info {
	t := transposed(h)
	return api.Info{N: product(t, wh), R: product(t, wy), C: dot(y.Cells, wy.Cells), Count: h.Rows}
}

// combined returns the sums of two informations about the same number of parameters.
func combined(f, g api.Info) api.Info {
	return api.Info{N: sum(f.N, g.N), R: sum(f.R, g.R), C: exact.Plus(f.C, g.C), Count: f.Count + g.Count}
}

// estimate is Estimate of a valid information.
func estimate(f api.Info) (x, cov api.Matrix, chi api.Ratio, e api.Errno) {
	cov, is := inverse(f.N)
	if !is {
		return api.Matrix{}, api.Matrix{}, api.Ratio{}, api.ErrSingular
	}
	x = product(cov, f.R)
	return x, cov, exact.Minus(f.C, dot(x.Cells, f.R.Cells)), api.OK
}

// CheckInfo returns ErrShape unless f is valid.
func CheckInfo(f api.Info) api.Errno {
	if !validInfo(f) {
		return api.ErrShape
	}
	return api.OK
}

// Blank returns an information of zeros.
func Blank(n int) (api.Info, api.Errno) {
	if !validOrder(n) {
		return api.Info{}, api.ErrShape
	}
	return api.Info{N: zeros(n, n), R: zeros(n, 1), C: number(0)}, api.OK
}

// Measure adds the weighted sum of squares of y - h x; ErrWeight unless the covariance v is positive definite.
func Measure(f api.Info, h, y, v api.Matrix) (api.Info, api.Errno) {
	if !validInfo(f) || !valid(h) || h.Cols != f.N.Rows || !vector(y, h.Rows) || !square(v) || v.Rows != h.Rows {
		return api.Info{}, api.ErrShape
	}
	if definite(v) < 2 {
		return api.Info{}, api.ErrWeight
	}
	both, _ := solve(v, beside(h, y))
	wh, wy := before(both, h.Cols)
	return combined(f, measured(h, y, wh, wy)), api.OK
}

// Combine returns the sums of two informations.
func Combine(f, g api.Info) (api.Info, api.Errno) {
	if !validInfo(f) || !validInfo(g) || f.N.Rows != g.N.Rows {
		return api.Info{}, api.ErrShape
	}
	return combined(f, g), api.OK
}

// Estimate returns the vector with the least sum of squares, its covariance, and that sum.
func Estimate(f api.Info) (x, cov api.Matrix, chi api.Ratio, e api.Errno) {
	if !validInfo(f) {
		return api.Matrix{}, api.Matrix{}, api.Ratio{}, api.ErrShape
	}
	return estimate(f)
}
