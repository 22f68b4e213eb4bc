package linear

import (
	"iter"

	"hodoscope/api"
	"hodoscope/exact"
)

// step is a step of an elimination: the pivot's row, which was brought to its place, and the pivot's column.
type step struct {
	row, col int
	swapped  bool
}

// steps yields the steps of an elimination of rows. In each of them the column is to be cleared in all rows below the
// pivot's (and may be cleared in those above).
func steps(rows []row) iter.Seq[step] {
	return func(yield func(step) bool) {
		for next := range rows {
			from, col := leftmost(rows, next)
			if from < 0 {
				return
			}
			rows[next], rows[from] = rows[from], rows[next]
			if !yield(step{next, col, from != next}) {
				return
			}
		}
	}
}

// leftmost returns the first row, from the row next on, that begins in the leftmost column, and that column; -1 if all of
// these rows are zeros.
func leftmost(rows []row, next int) (from, col int) {
	from = -1
	for i := next; i < len(rows); i++ {
		lead := rows[i].lead()
		if lead < len(rows[i].cells) && (from < 0 || lead < col) {
			from, col = i, lead
		}
	}
	return from, col
}

// sweep replaces each row by what change makes of it.
func sweep(rows []row, change func(row) row) {
	for i, r := range rows {
		rows[i] = change(r)
	}
}

// reduce eliminates rows until each pivot is the only cell of its column that is not 0, and returns the pivots.
func reduce(rows []row) []int {
	var pivots []int
	for s := range steps(rows) {
		change := rows[s.row].clear
		sweep(rows[:s.row], change)
		sweep(rows[s.row+1:], change)
		pivots = append(pivots, s.col)
	}
	return pivots
}

// determinant returns that of a square matrix: the product of the pivots.
func determinant(m api.Matrix) api.Ratio {
	rows := rowsOf(m)
	det, pivots := number(1), 0
eliminating:
	for s := range steps(rows) {
		switch {
		case s.col != s.row:
			break eliminating // a column without a pivot
		case s.swapped:
			det = exact.Minus(number(0), det)
		}
		det = exact.Times(det, rows[s.row].cell(s.col))
		sweep(rows[s.row+1:], rows[s.row].clear)
		pivots++
	}
	if pivots < m.Rows {
		return number(0)
	}
	return det
}

// definite returns 2 if m, which is square, is symmetric and positive definite, 1 if it is semidefinite, otherwise 0.
// What is left of a symmetric matrix after a step stays symmetric if the pivots are taken from the diagonal.
func definite(m api.Matrix) int {
	if !symmetric(m) {
		return 0
	}
	rows := rowsOf(m)
	kind := 2
	for i := range rows {
		switch lead := rows[i].lead(); {
		case lead == m.Cols:
			kind = 1
		case lead > i || rows[i].sign(i) < 0:
			return 0
		default:
			sweep(rows[i+1:], rows[i].clear)
		}
	}
	return kind
}

// Reduce returns the reduced echelon form, and the pivots.
func Reduce(m api.Matrix) (form api.Matrix, pivots []int, e api.Errno) {
	if !valid(m) {
		return api.Matrix{}, nil, api.ErrShape
	}
	rows := rowsOf(m)
	pivots = reduce(rows)
	form = build(m.Rows, m.Cols, func(i, j int) api.Ratio {
		if i < len(pivots) {
			return rows[i].over(pivots[i], j)
		}
		return number(0)
	})
	return form, pivots, api.OK
}

// Rank returns the number of pivots.
func Rank(m api.Matrix) (int, api.Errno) {
	if !valid(m) {
		return 0, api.ErrShape
	}
	rows, rank := rowsOf(m), 0
	for s := range steps(rows) {
		sweep(rows[s.row+1:], rows[s.row].clear)
		rank++
	}
	return rank, api.OK
}

// Det returns the determinant.
func Det(m api.Matrix) (api.Ratio, api.Errno) {
	if !square(m) {
		return api.Ratio{}, api.ErrShape
	}
	return determinant(m), api.OK
}

// Definite returns 2 for a positive definite matrix, 1 for a semidefinite one, otherwise 0.
func Definite(m api.Matrix) (int, api.Errno) {
	if !square(m) {
		return 0, api.ErrShape
	}
	return definite(m), api.OK
}

// Null returns the solutions of m x = 0, a column for each column that is no pivot.
func Null(m api.Matrix) (api.Matrix, api.Errno) {
	form, pivots, e := Reduce(m)
	if e != api.OK {
		return api.Matrix{}, e
	}
	free := []int{}
	pivotRow := make([]int, m.Cols) // from 1 on; 0 of a column that is no pivot
	for i, col := range pivots {
		pivotRow[col] = i + 1
	}
	for col, i := range pivotRow {
		if i == 0 {
			free = append(free, col)
		}
	}
	return build(m.Cols, len(free), func(i, j int) api.Ratio {
		switch {
		case pivotRow[i] > 0:
			return exact.Minus(number(0), at(form, pivotRow[i]-1, free[j]))
		case i == free[j]:
			return number(1)
		}
		return number(0)
	}), api.OK
}
