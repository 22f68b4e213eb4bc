package linear

import (
	"slices"

	"hodoscope/api"
	"hodoscope/exact"
)

// row is a row of ratios, each of them unit, which is above 0, times an integer. No integer above 1 divides all the
// integers. They are then never longer than determinants of parts of the matrix, and the steps of an elimination need no
// common divisors but the row's own.
type row struct {
	unit  api.Ratio
	cells []api.Int
}

func rowOf(l []api.Ratio) row {
	lowest := make([]api.Ratio, 0, len(l))
	den := exact.Of(1)
	for _, r := range l {
		r = exact.Lowest(r)
		lowest = append(lowest, r)
		den = exact.Mul(den, quotient(r.Den, exact.Gcd(den, r.Den)))
	}
	cells := make([]api.Int, 0, len(l))
	for _, r := range lowest {
		cells = append(cells, exact.Mul(r.Num, quotient(den, r.Den)))
	}
	return row{ratio(exact.Of(1), den), cells}.shortened()
}

func rowsOf(m api.Matrix) []row {
	rows := make([]row, 0, m.Rows)
	for i := range m.Rows {
		rows = append(rows, rowOf(rowCells(m, i)))
	}
	return rows
}

// quotient returns a divided by b, which is not 0 and divides it.
func quotient(a, b api.Int) api.Int {
	q, _, _ := exact.Div(a, b)
	return q
}

// ratio returns num divided by den, which is not 0.
func ratio(num, den api.Int) api.Ratio {
	r, _ := exact.Make(num, den)
	return r
}

func isOne(a api.Int) bool {
	n, small := exact.Small(a)
	return small && n == 1
}

// shortened returns the same row, with the common divisor of the integers moved to the unit.
func (r row) shortened() row {
	common := api.Int{}
	for _, c := range r.cells {
		common = exact.Gcd(common, c)
		if isOne(common) {
			return r
		}
	}
	if exact.Sign(common) == 0 {
		return r
	}
	cells := make([]api.Int, 0, len(r.cells))
	for _, c := range r.cells {
		cells = append(cells, quotient(c, common))
	}
	return row{exact.Times(r.unit, exact.Whole(common)), cells}
}

func (r row) sign(col int) int {
	return exact.Sign(r.cells[col])
}

// lead returns the first column whose cell is not 0; the number of columns if there is none.
func (r row) lead() int {
	col := slices.IndexFunc(r.cells, func(c api.Int) bool { return exact.Sign(c) != 0 })
	if col < 0 {
		return len(r.cells)
	}
	return col
}

// cell returns the ratio in a column.
func (r row) cell(col int) api.Ratio {
	return exact.Times(r.unit, exact.Whole(r.cells[col]))
}

// over returns the ratio in a column divided by that in the column pivot, which is not 0.
func (r row) over(pivot, col int) api.Ratio {
	return ratio(r.cells[col], r.cells[pivot])
}

// times returns the sum of the products of the ratios in the same columns.
func (r row) times(other row) api.Ratio {
	total := api.Int{}
	for j, c := range r.cells {
		total = exact.Add(total, exact.Mul(c, other.cells[j]))
	}
	return exact.Times(exact.Times(r.unit, other.unit), exact.Whole(total))
}

// clear returns other less the multiple of r after which other has 0 in the first column in which r, which is not all
// zeros, has not.
func (r row) clear(other row) row {
	col := r.lead()
	if other.sign(col) == 0 {
		return other
	}
	factor := ratio(other.cells[col], r.cells[col])
	cells := make([]api.Int, 0, len(other.cells))
	for j, c := range other.cells {
		cells = append(cells, exact.Sub(exact.Mul(c, factor.Den), exact.Mul(r.cells[j], factor.Num)))
	}
	unit := exact.Times(other.unit, ratio(exact.Of(1), factor.Den))
	return row{unit, cells}.shortened()
}
