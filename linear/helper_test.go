package linear_test

import (
	"fmt"
	"math/big"
	"math/rand"
	"reflect"
	"slices"
	"strings"
	"testing"

	"hodoscope/api"
	"hodoscope/exact"
	"hodoscope/linear"
)

// Matrices are written as texts: cells with spaces between them, rows with semicolons between them.

func ratio(s string) api.Ratio {
	r, e := exact.ParseRatio(s)
	if e != api.OK {
		panic(s)
	}
	return r
}

func ratios(s string) []api.Ratio {
	var l []api.Ratio
	for _, x := range strings.Fields(s) {
		l = append(l, ratio(x))
	}
	return l
}

func matrix(s string) api.Matrix {
	var m api.Matrix
	for text := range strings.SplitSeq(s, ";") {
		row := ratios(text)
		m.Rows, m.Cols, m.Cells = m.Rows+1, len(row), append(m.Cells, row...)
	}
	if len(m.Cells) != m.Rows*m.Cols {
		panic(s)
	}
	return m
}

// empty has no cells.
func empty(rows, cols int) api.Matrix {
	return api.Matrix{Rows: rows, Cols: cols}
}

func show(m api.Matrix) string {
	s := fmt.Sprintf("%d by %d:", m.Rows, m.Cols)
	for i, r := range m.Cells {
		if i > 0 && m.Cols > 0 && i%m.Cols == 0 {
			s += ";"
		}
		s += " " + exact.Show(r)
	}
	return s
}

func showInfo(f api.Info) string {
	return fmt.Sprintf("N %s, R %s, C %s, Count %d", show(f.N), show(f.R), exact.Show(f.C), f.Count)
}

// normal reports whether r is in normal form: as it is read from its text.
func normal(r api.Ratio) bool {
	want := ratio(exact.Show(r))
	same := func(a, b api.Int) bool { return a.Neg == b.Neg && slices.Equal(a.Words, b.Words) }
	return same(r.Num, want.Num) && same(r.Den, want.Den)
}

func checkRatio(t *testing.T, what string, got, want api.Ratio) {
	t.Helper()
	if !normal(got) || exact.Show(got) != exact.Show(want) {
		t.Errorf("%s: %s (%v), want %s", what, exact.Show(got), got, exact.Show(want))
	}
}

func checkMatrix(t *testing.T, what string, got, want api.Matrix) {
	t.Helper()
	if len(got.Cells) != got.Rows*got.Cols || show(got) != show(want) {
		t.Errorf("%s: %s, want %s", what, show(got), show(want))
	}
	for i, r := range got.Cells {
		if !normal(r) {
			t.Errorf("%s: cell %d is not in normal form: %v", what, i, r)
		}
	}
}

func checkInfo(t *testing.T, what string, got, want api.Info) {
	t.Helper()
	checkMatrix(t, what+": N", got.N, want.N)
	checkMatrix(t, what+": R", got.R, want.R)
	checkRatio(t, what+": C", got.C, want.C)
	if got.Count != want.Count {
		t.Errorf("%s: Count %d, want %d", what, got.Count, want.Count)
	}
}

func checkErrno(t *testing.T, what string, got, want api.Errno) {
	t.Helper()
	if got != want {
		t.Errorf("%s: error %d, want %d", what, got, want)
	}
}

// checkFails checks the error, which is the last of the results, and that the others are zero values.
func checkFails(t *testing.T, what string, want api.Errno, results ...any) {
	t.Helper()
	last := len(results) - 1
	checkErrno(t, what, results[last].(api.Errno), want)
	for _, r := range results[:last] {
		if !reflect.ValueOf(r).IsZero() {
			t.Errorf("%s: with an error, %v", what, r)
		}
	}
}

// results makes a list of what a call returns.
func results(l ...any) []any { return l }

// The tests compare with math/big and with the plainest ways to compute; these are tables of its ratios.

type table [][]*big.Rat

func rat(r api.Ratio) *big.Rat {
	f, ok := new(big.Rat).SetString(exact.Show(r))
	if !ok {
		panic(r)
	}
	return f
}

func tableOf(m api.Matrix) table {
	t := make(table, m.Rows)
	for i := range t {
		for j := range m.Cols {
			t[i] = append(t[i], rat(m.Cells[i*m.Cols+j]))
		}
	}
	return t
}

// matrix needs cols, since a table without rows does not tell them.
func (t table) matrix(cols int) api.Matrix {
	m := empty(len(t), cols)
	for _, row := range t {
		for _, f := range row {
			m.Cells = append(m.Cells, ratio(f.RatString()))
		}
	}
	return m
}

func plainRatio(f *big.Rat) api.Ratio { return ratio(f.RatString()) }

func filled(rows, cols int, cell func(i, j int) *big.Rat) table {
	t := make(table, rows)
	for i := range t {
		for j := range cols {
			t[i] = append(t[i], cell(i, j))
		}
	}
	return t
}

func plainMul(a, b api.Matrix) api.Matrix {
	x, y := tableOf(a), tableOf(b)
	return filled(a.Rows, b.Cols, func(i, j int) *big.Rat {
		sum := new(big.Rat)
		for k := range a.Cols {
			sum.Add(sum, new(big.Rat).Mul(x[i][k], y[k][j]))
		}
		return sum
	}).matrix(b.Cols)
}

// plainAdd returns a plus the multiple of b.
func plainAdd(a api.Matrix, times int64, b api.Matrix) api.Matrix {
	x, y := tableOf(a), tableOf(b)
	return filled(a.Rows, a.Cols, func(i, j int) *big.Rat {
		return new(big.Rat).Add(x[i][j], new(big.Rat).Mul(big.NewRat(times, 1), y[i][j]))
	}).matrix(a.Cols)
}

func plainTranspose(m api.Matrix) api.Matrix {
	x := tableOf(m)
	return filled(m.Cols, m.Rows, func(i, j int) *big.Rat { return x[j][i] }).matrix(m.Rows)
}

func plainPick(m api.Matrix, rows, cols []int) api.Matrix {
	x := tableOf(m)
	return filled(len(rows), len(cols), func(i, j int) *big.Rat { return x[rows[i]][cols[j]] }).matrix(len(cols))
}

// plainReduce is the elimination of the schoolbook: column by column, with the first row that has a pivot.
func plainReduce(m api.Matrix) (api.Matrix, []int) {
	x := tableOf(m)
	var pivots []int
	for col := range m.Cols {
		at := len(pivots)
		from := at
		for from < m.Rows && x[from][col].Sign() == 0 {
			from++
		}
		if from == m.Rows {
			continue
		}
		x[at], x[from] = x[from], x[at]
		by := new(big.Rat).Inv(x[at][col])
		for j := range x[at] {
			x[at][j] = new(big.Rat).Mul(x[at][j], by)
		}
		for i := range x {
			if i == at {
				continue
			}
			factor := x[i][col]
			for j := range x[i] {
				x[i][j] = new(big.Rat).Sub(x[i][j], new(big.Rat).Mul(factor, x[at][j]))
			}
		}
		pivots = append(pivots, col)
	}
	return x.matrix(m.Cols), pivots
}

// plainInverse returns the inverse; false if there is none.
func plainInverse(m api.Matrix) (api.Matrix, bool) {
	n := m.Rows
	both := empty(n, 2*n)
	for i := range n {
		both.Cells = append(both.Cells, m.Cells[i*n:(i+1)*n]...)
		for j := range n {
			both.Cells = append(both.Cells, ratio(map[bool]string{true: "1", false: "0"}[i == j]))
		}
	}
	form, pivots := plainReduce(both)
	if len(pivots) != n || n > 0 && pivots[n-1] != n-1 {
		return api.Matrix{}, false
	}
	return plainPick(form, span(0, n), span(n, 2*n)), true
}

// plainDet expands along the first row.
func plainDet(x table) *big.Rat {
	if len(x) == 0 {
		return big.NewRat(1, 1)
	}
	det := new(big.Rat)
	for j, f := range x[0] {
		minor := table{}
		for _, row := range x[1:] {
			minor = append(minor, append(slices.Clone(row[:j]), row[j+1:]...))
		}
		part := new(big.Rat).Mul(f, plainDet(minor))
		if j%2 == 1 {
			part.Neg(part)
		}
		det.Add(det, part)
	}
	return det
}

// plainDefinite asks the determinants of all parts on the diagonal.
func plainDefinite(m api.Matrix) int {
	x := tableOf(m)
	if show(plainTranspose(m)) != show(m) {
		return 0
	}
	kind := 2
	for set := 1; set < 1<<m.Rows; set++ {
		var l []int
		for i := range m.Rows {
			if set>>i&1 == 1 {
				l = append(l, i)
			}
		}
		part := filled(len(l), len(l), func(i, j int) *big.Rat { return x[l[i]][l[j]] })
		kind = min(kind, plainDet(part).Sign()+1)
	}
	return kind
}

// single returns the cell of a 1 by 1 matrix.
func single(m api.Matrix) *big.Rat {
	if m.Rows != 1 || m.Cols != 1 {
		panic(show(m))
	}
	return rat(m.Cells[0])
}

// plainValue is the sum of squares that f has for x.
func plainValue(f api.Info, x api.Matrix) *big.Rat {
	t := plainTranspose(x)
	value := rat(f.C)
	value.Add(value, single(plainMul(t, plainMul(f.N, x))))
	linearPart := single(plainMul(t, f.R))
	return value.Sub(value, linearPart.Add(linearPart, linearPart))
}

// span returns the indices from a to below b.
func span(a, b int) []int {
	var l []int
	for i := a; i < b; i++ {
		l = append(l, i)
	}
	return l
}

func random(r *rand.Rand, rows, cols int) api.Matrix {
	m := empty(rows, cols)
	dens := 1 + r.Int63n(4)
	for range rows * cols {
		x, _ := exact.Over(r.Int63n(13)-6, 1+r.Int63n(dens))
		m.Cells = append(m.Cells, x)
	}
	return m
}

func blanks(rows, cols int) api.Matrix {
	return api.Matrix{Rows: rows, Cols: cols, Cells: make([]api.Ratio, rows*cols)}
}

// poor returns a matrix of at most that rank.
func poor(r *rand.Rand, rows, cols, rank int) api.Matrix {
	return plainMul(random(r, rows, rank), random(r, rank, cols))
}

// gram returns a symmetric, positive semidefinite matrix of at most that rank.
func gram(r *rand.Rand, n, rank int) api.Matrix {
	m := random(r, n, rank)
	return plainMul(m, plainTranspose(m))
}

// firm returns a positive definite matrix.
func firm(r *rand.Rand, n int) api.Matrix {
	return plainAdd(gram(r, n, n), 1, unit(n))
}

func unit(n int) api.Matrix {
	m, e := linear.Identity(n)
	if e != api.OK {
		panic(n)
	}
	return m
}

func randomInfo(r *rand.Rand, n int) api.Info {
	return api.Info{N: firm(r, n), R: random(r, n, 1), C: random(r, 1, 1).Cells[0], Count: r.Intn(9)}
}
