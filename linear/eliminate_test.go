package linear_test

import (
	"math/big"
	"math/rand"
	"slices"
	"testing"

	"hodoscope/api"
	"hodoscope/exact"
	"hodoscope/linear"
)

// P2.3

func checkReduce(t *testing.T, m api.Matrix) {
	t.Helper()
	form, pivots := plainReduce(m)
	got, gotPivots, e := linear.Reduce(m)
	checkErrno(t, "Reduce of "+show(m), e, api.OK)
	checkMatrix(t, "Reduce of "+show(m), got, form)
	if !slices.Equal(gotPivots, pivots) {
		t.Error("Reduce of", show(m), "has the pivots", gotPivots, "instead of", pivots)
	}
	rank, e := linear.Rank(m)
	if e != api.OK || rank != len(pivots) {
		t.Error("Rank of", show(m), "is", rank, e)
	}
	checkNull(t, m, form, pivots)
}

// checkNull checks all that the chapter says of the result; there is only one such matrix.
func checkNull(t *testing.T, m, form api.Matrix, pivots []int) {
	t.Helper()
	null, e := linear.Null(m)
	checkErrno(t, "Null of "+show(m), e, api.OK)
	var free []int
	for j := range m.Cols {
		if !slices.Contains(pivots, j) {
			free = append(free, j)
		}
	}
	if null.Rows != m.Cols || null.Cols != len(free) {
		t.Fatal("Null of", show(m), "is", show(null))
	}
	checkMatrix(t, "m times Null of "+show(m), plainMul(m, null), blanks(m.Rows, len(free)))
	checkMatrix(t, "rows of Null of "+show(m), plainPick(null, free, span(0, len(free))), unit(len(free)))
	checkMatrix(t, "Null of "+show(m), null, null)
}

func TestElimination(t *testing.T) {
	r := rand.New(rand.NewSource(2))
	for range 300 {
		rows, cols := r.Intn(7), r.Intn(7)
		checkReduce(t, random(r, rows, cols))
		checkReduce(t, poor(r, rows, cols, r.Intn(4)))
	}
	for _, s := range []string{"0", "5", "0 0; 0 0", "0 1; 1 0", "0 0 2; 0 0 3; 0 0 0", "0 1 2; 0 2 4; 1 0 0", "1 1; 1 1; 1 1; 0 1", "0 0 0 1; 0 0 1 0; 0 1 0 0; 1 0 0 0",
		"1/3 1/7; 2/3 2/7", "1000000007/1000000009 -1; 1000000009/1000000007 3", "-2 4 6", "-2; 4; 6", "18446744073709551616 1; 340282366920938463463374607431768211456 18446744073709551616"} {
		checkReduce(t, matrix(s))
	}
	for _, m := range []api.Matrix{empty(0, 0), empty(0, 3), empty(3, 0), empty(0, 1), empty(api.MaxOrder, 0), empty(0, api.MaxOrder)} {
		checkReduce(t, m)
	}
}

// P2.4

func checkSquare(t *testing.T, m api.Matrix) {
	t.Helper()
	want := plainDet(tableOf(m))
	det, e := linear.Det(m)
	checkErrno(t, "Det of "+show(m), e, api.OK)
	checkRatio(t, "Det of "+show(m), det, plainRatio(want))
	got, e := linear.Inverse(m)
	if want.Sign() == 0 {
		checkFails(t, "Inverse of "+show(m), api.ErrSingular, got, e)
	} else {
		checkErrno(t, "Inverse of "+show(m), e, api.OK)
		inverse, _ := plainInverse(m)
		checkMatrix(t, "Inverse of "+show(m), got, inverse)
	}
	kind, e := linear.Definite(m)
	if e != api.OK || kind != plainDefinite(m) {
		t.Error("Definite of", show(m), "is", kind, e)
	}
}

func TestSquareMatrices(t *testing.T) {
	r := rand.New(rand.NewSource(3))
	for range 200 {
		n := r.Intn(6)
		checkSquare(t, random(r, n, n))
		checkSquare(t, poor(r, n, n, r.Intn(n+1)))
		checkSquare(t, gram(r, n, r.Intn(n+2)))
		half := random(r, n, n)
		checkSquare(t, plainAdd(half, 1, plainTranspose(half)))
		near := plainAdd(gram(r, n, n), 1, unit(n)) // definite, and then a little less
		if n > 0 {
			k := r.Intn(n)
			near.Cells[k*n+k] = exact.Minus(near.Cells[k*n+k], ratio([]string{"0", "1", "3/2", "9"}[r.Intn(4)]))
		}
		checkSquare(t, near)
	}
	for _, s := range []string{"0", "7", "-7", "-1/3", "0 1; 1 0", "1 0; 0 -1", "0 0; 0 1", "1 0; 0 0", "0 0; 0 -1", "0 0; 0 0", "1 1; 1 1", "1 2; 2 4", "1 2; 2 3", "2 1; 0 2",
		"1 2; 3 4", "0 0 1; 0 1 0; 1 0 0", "0 1 0; 0 0 1; 1 0 0", "1 1 0; 1 1 0; 0 0 1", "1 1 0; 1 1 1; 0 1 1", "1 0 1; 0 0 0; 1 0 1", "1 0 0; 0 0 1; 0 1 0", "1 0 0; 0 0 1; 0 1 5",
		"1 1/2; 1/2 1/4", "1 1/2; 1/2 1/5", "1000000007/3 1; 1 3/1000000007", "0 2 3; 4 0 6; 7 8 0", "-2 0; 0 -3"} {
		checkSquare(t, matrix(s))
	}
	checkSquare(t, empty(0, 0))
}

func TestMatricesThatAreNotSquare(t *testing.T) {
	for _, m := range []api.Matrix{matrix("1 2"), matrix("1; 2"), empty(0, 1), empty(1, 0), matrix("1 2 3; 4 5 6")} {
		det, e := linear.Det(m)
		checkFails(t, "Det of "+show(m), api.ErrShape, det, e)
		inverse, e := linear.Inverse(m)
		checkFails(t, "Inverse of "+show(m), api.ErrShape, inverse, e)
		kind, e := linear.Definite(m)
		checkFails(t, "Definite of "+show(m), api.ErrShape, kind, e)
	}
}

// tent returns the n by n matrix with 2 on the diagonal and -1 beside it: its determinant is n + 1, and the cell (i, j) of
// its inverse is (i + 1) (n - j) / (n + 1) for i up to j.
func tent(n int) api.Matrix {
	return filled(n, n, func(i, j int) *big.Rat {
		switch i - j {
		case 0:
			return big.NewRat(2, 1)
		case 1, -1:
			return big.NewRat(-1, 1)
		}
		return new(big.Rat)
	}).matrix(n)
}

func TestMaxOrder(t *testing.T) {
	n := api.MaxOrder
	m := tent(n)
	det, e := linear.Det(m)
	checkErrno(t, "Det", e, api.OK)
	checkRatio(t, "Det", det, plainRatio(big.NewRat(int64(n)+1, 1)))
	inverse, e := linear.Inverse(m)
	checkErrno(t, "Inverse", e, api.OK)
	checkMatrix(t, "Inverse", inverse, filled(n, n, func(i, j int) *big.Rat {
		return big.NewRat(int64((min(i, j)+1)*(n-max(i, j))), int64(n)+1)
	}).matrix(n))
	if kind, e := linear.Definite(m); kind != 2 || e != api.OK {
		t.Error("Definite", kind, e)
	}
	if rank, e := linear.Rank(m); rank != n || e != api.OK {
		t.Error("Rank", rank, e)
	}
	m.Cells[n*n-1] = exact.Minus(ratio("2"), ratio("65/64")) // less the determinant by that of the other rows and columns
	if det, _ := linear.Det(m); exact.Signum(det) != 0 {
		t.Error("Det of a singular matrix", exact.Show(det))
	}
	if kind, e := linear.Definite(m); kind != 1 || e != api.OK {
		t.Error("Definite of a semidefinite matrix", kind, e)
	}
	inverse, e = linear.Inverse(m)
	checkFails(t, "Inverse of a singular matrix", api.ErrSingular, inverse, e)
}
