package linear

import (
	"slices"

	"hodoscope/api"
	"hodoscope/exact"
)

// The functions in small letters take matrices that are valid and whose sizes fit. Theirs may have more rows and columns
// than MaxOrder: those of equations, with their right sides beside them.

func sum(a, b api.Matrix) api.Matrix {
	return build(a.Rows, a.Cols, func(i, j int) api.Ratio {
		return exact.Plus(a.Cells[i*a.Cols+j], b.Cells[i*b.Cols+j])
	})
}

func difference(a, b api.Matrix) api.Matrix {
	return build(a.Rows, a.Cols, func(i, j int) api.Ratio {
		return exact.Minus(a.Cells[i*a.Cols+j], b.Cells[i*b.Cols+j])
	})
}

func scaled(m api.Matrix, r api.Ratio) api.Matrix {
	return build(m.Rows, m.Cols, func(i, j int) api.Ratio { return exact.Times(m.Cells[i*m.Cols+j], r) })
}

func product(a, b api.Matrix) api.Matrix {
	rows, columns := rowsOf(a), rowsOf(transposed(b))
	return build(a.Rows, b.Cols, func(i, j int) api.Ratio { return rows[i].times(columns[j]) })
}

// rowCells returns m's own cells of the row i.
func rowCells(m api.Matrix, i int) []api.Ratio {
	return m.Cells[i*m.Cols : (i+1)*m.Cols]
}

// dot returns the sum of the products of the elements of two lists of the same length.
func dot(l, m []api.Ratio) api.Ratio {
	r, _ := exact.Dot(l, m)
	return r
}

// The next functions only arrange cells anew: theirs are those of the arguments, in the same memory, as they are.

func transposed(m api.Matrix) api.Matrix {
	return build(m.Cols, m.Rows, func(i, j int) api.Ratio { return m.Cells[j*m.Cols+i] })
}

func picked(m api.Matrix, rows, cols []int) api.Matrix {
	return build(len(rows), len(cols), func(i, j int) api.Ratio { return m.Cells[rows[i]*m.Cols+cols[j]] })
}

// stacked returns a's rows, then b's.
func stacked(a, b api.Matrix) api.Matrix {
	return api.Matrix{Rows: a.Rows + b.Rows, Cols: a.Cols, Cells: slices.Concat(a.Cells, b.Cells)}
}

// beside returns a's columns, then b's.
func beside(a, b api.Matrix) api.Matrix {
	return transposed(stacked(transposed(a), transposed(b)))
}

// above returns the first rows of m, and those below them.
func above(m api.Matrix, first int) (api.Matrix, api.Matrix) {
	cut := first * m.Cols
	return api.Matrix{Rows: first, Cols: m.Cols, Cells: m.Cells[:cut:cut]},
		api.Matrix{Rows: m.Rows - first, Cols: m.Cols, Cells: m.Cells[cut:]}
}

// before returns the first columns of m, and those after them.
func before(m api.Matrix, first int) (api.Matrix, api.Matrix) {
	l, r := above(transposed(m), first)
	return transposed(l), transposed(r)
}

// copied returns m with cells in normal form, in memory of their own.
func copied(m api.Matrix) api.Matrix {
	return build(m.Rows, m.Cols, func(i, j int) api.Ratio { return at(m, i, j) })
}

// Add returns the sum, cell by cell.
func Add(a, b api.Matrix) (api.Matrix, api.Errno) {
	if !valid(a, b) || a.Rows != b.Rows || a.Cols != b.Cols {
		return api.Matrix{}, api.ErrShape
	}
	return sum(a, b), api.OK
}

// Scale returns each cell times r.
func Scale(m api.Matrix, r api.Ratio) (api.Matrix, api.Errno) {
	if !valid(m) {
		return api.Matrix{}, api.ErrShape
	}
	return scaled(m, r), api.OK
}

// Mul returns the product.
func Mul(a, b api.Matrix) (api.Matrix, api.Errno) {
	if !valid(a, b) || a.Cols != b.Rows {
		return api.Matrix{}, api.ErrShape
	}
	return product(a, b), api.OK
}

// Transpose returns the matrix whose cell (j, i) is m's cell (i, j).
func Transpose(m api.Matrix) (api.Matrix, api.Errno) {
	if !valid(m) {
		return api.Matrix{}, api.ErrShape
	}
	return copied(transposed(m)), api.OK
}

// within reports whether all of l are from 0 to below n.
func within(l []int, n int) bool {
	for _, i := range l {
		if i < 0 || i >= n {
			return false
		}
	}
	return true
}

// Pick returns the cells of some rows and columns; ErrRange unless m has them all, ErrLong if there are too many.
func Pick(m api.Matrix, rows, cols []int) (api.Matrix, api.Errno) {
	switch {
	case !valid(m):
		return api.Matrix{}, api.ErrShape
	case !within(rows, m.Rows) || !within(cols, m.Cols):
		return api.Matrix{}, api.ErrRange
	case len(rows) > api.MaxOrder || len(cols) > api.MaxOrder:
		return api.Matrix{}, api.ErrLong
	}
	return copied(picked(m, rows, cols)), api.OK
}

// Stack returns a's rows, then b's; ErrLong if there are too many.
func Stack(a, b api.Matrix) (api.Matrix, api.Errno) {
	switch {
	case !valid(a, b) || a.Cols != b.Cols:
		return api.Matrix{}, api.ErrShape
	case a.Rows+b.Rows > api.MaxOrder:
		return api.Matrix{}, api.ErrLong
	}
	return copied(stacked(a, b)), api.OK
}
