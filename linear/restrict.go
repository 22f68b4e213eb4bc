package linear

import (
	"slices"

	"hodoscope/api"
	"hodoscope/exact"
)

// others returns the indices below n that are not in l, ascending; false unless l has only indices below n, each at most
// once.
func others(n int, l []int) ([]int, bool) {
	if !within(l, n) {
		return nil, false
	}
	rest := []int{}
	for i := range n {
		if !slices.Contains(l, i) {
			rest = append(rest, i)
		}
	}
	return rest, len(l)+len(rest) == n
}

// quadratic returns the sum of squares of x, less C: x' N x - 2 x' R.
func quadratic(n, r, x api.Matrix) api.Ratio {
	twice := difference(product(n, x), sum(r, r))
	return dot(x.Cells, twice.Cells)
}

// Marginal returns what is known of the parameters of keep if the others are free; ErrSingular if too little is known of
// the others.
func Marginal(f api.Info, keep []int) (api.Info, api.Errno) {
	if !validInfo(f) {
		return api.Info{}, api.ErrShape
	}
	rest, is := others(f.N.Rows, keep)
	if !is {
		return api.Info{}, api.ErrRange
	}
	b, s := picked(f.N, rest, keep), picked(f.R, rest, []int{0})
	solution, is := solve(picked(f.N, rest, rest), beside(b, s))
	if !is {
		return api.Info{}, api.ErrSingular
	}
	db, ds := before(solution, len(keep))
	t := transposed(b)
	return api.Info{
		N:     difference(picked(f.N, keep, keep), product(t, db)),
		R:     difference(picked(f.R, keep, []int{0}), product(t, ds)),
		C:     exact.Minus(f.C, dot(s.Cells, ds.Cells)),
		Count: f.Count - len(rest),
	}, api.OK
}

// Condition returns what is known of the other parameters if those of at have these values.
func Condition(f api.Info, at []int, values api.Matrix) (api.Info, api.Errno) {
	if !validInfo(f) || !vector(values, len(at)) {
		return api.Info{}, api.ErrShape
	}
	rest, is := others(f.N.Rows, at)
	if !is {
		return api.Info{}, api.ErrRange
	}
	fixed := quadratic(picked(f.N, at, at), picked(f.R, at, []int{0}), values)
	return api.Info{
		N:     copied(picked(f.N, rest, rest)),
		R:     difference(picked(f.R, rest, []int{0}), product(picked(f.N, rest, at), values)),
		C:     exact.Plus(f.C, fixed),
		Count: f.Count,
	}, api.OK
}

// Move returns what is known of t x, with a noise of the covariance q; ErrSingular if t has no inverse, ErrWeight unless q
// is positive semidefinite.
func Move(f api.Info, t, q api.Matrix) (api.Info, api.Errno) {
	n := f.N.Rows
	if !validInfo(f) || !square(t) || t.Rows != n || !square(q) || q.Rows != n {
		return api.Info{}, api.ErrShape
	}
	u, is := inverse(t)
	if !is {
		return api.Info{}, api.ErrSingular
	}
	if definite(q) == 0 {
		return api.Info{}, api.ErrWeight
	}
	// The chapter's P is u' (t' + N u q). Without the u' before both sides, the equations have shorter numbers.
	nu := product(f.N, u)
	solution, is := solve(sum(transposed(t), product(nu, q)), beside(nu, f.R))
	if !is {
		return api.Info{}, api.ErrSingular
	}
	moved, r := before(solution, n)
	s := product(transposed(u), f.R)
	return api.Info{N: moved, R: r, C: exact.Minus(f.C, dot(s.Cells, product(q, r).Cells)), Count: f.Count}, api.OK
}

// Constrain returns the vector with the least sum of squares of all with a x = b, the factors, and that sum; ErrSingular
// unless the equations of both have exactly one solution.
func Constrain(f api.Info, a, b api.Matrix) (x, factors api.Matrix, chi api.Ratio, e api.Errno) {
	n := f.N.Rows
	if !validInfo(f) || !valid(a) || a.Cols != n || !vector(b, a.Rows) || n+a.Rows > api.MaxOrder {
		return api.Matrix{}, api.Matrix{}, api.Ratio{}, api.ErrShape
	}
	left := stacked(beside(f.N, transposed(a)), beside(a, zeros(a.Rows, a.Rows)))
	solution, is := solve(left, stacked(f.R, b))
	if !is {
		return api.Matrix{}, api.Matrix{}, api.Ratio{}, api.ErrSingular
	}
	top, bottom := above(solution, n)
	return copied(top), copied(bottom), exact.Plus(f.C, quadratic(f.N, f.R, top)), api.OK
}
