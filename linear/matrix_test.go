package linear_test

import (
	"math"
	"math/rand"
	"slices"
	"testing"

	"hodoscope/api"
	"hodoscope/exact"
	"hodoscope/linear"
)

// P2.1

// invalid are matrices that are not valid.
func invalid() []api.Matrix {
	one := ratio("1")
	return []api.Matrix{
		{Rows: -1, Cols: 0},
		{Rows: 0, Cols: -1},
		{Rows: -1, Cols: -1, Cells: []api.Ratio{one}},
		{Rows: api.MaxOrder + 1, Cols: 0},
		{Rows: 0, Cols: api.MaxOrder + 1},
		{Rows: 1, Cols: api.MaxOrder + 1, Cells: make([]api.Ratio, api.MaxOrder+1)},
		{Rows: api.MaxOrder + 1, Cols: 1, Cells: make([]api.Ratio, api.MaxOrder+1)},
		{Rows: math.MaxInt, Cols: math.MaxInt, Cells: []api.Ratio{one}},
		{Rows: 1 << 32, Cols: 1 << 32},
		{Rows: math.MinInt, Cols: math.MinInt},
		{Rows: 1, Cols: 1},
		{Rows: 2, Cols: 2, Cells: []api.Ratio{one, one, one}},
		{Rows: 2, Cols: 2, Cells: []api.Ratio{one, one, one, one, one}},
		{Rows: 0, Cols: 0, Cells: []api.Ratio{one}},
		{Rows: 2, Cols: 0, Cells: []api.Ratio{one}},
	}
}

func TestCheck(t *testing.T) {
	for _, m := range invalid() {
		checkErrno(t, show(m), linear.Check(m), api.ErrShape)
	}
	full := api.Matrix{Rows: api.MaxOrder, Cols: api.MaxOrder, Cells: make([]api.Ratio, api.MaxOrder*api.MaxOrder)}
	for _, m := range []api.Matrix{{}, matrix("1"), matrix("1 2 3; 4 5 6"), empty(0, 3), empty(3, 0), empty(api.MaxOrder, 0), empty(0, api.MaxOrder), full, {Cells: []api.Ratio{}}} {
		checkErrno(t, show(m), linear.Check(m), api.OK)
	}
}

func TestMake(t *testing.T) {
	m, e := linear.Make(2, 3, 1, -2, 0, math.MaxInt64, math.MinInt64, 7)
	checkErrno(t, "Make", e, api.OK)
	checkMatrix(t, "Make", m, matrix("1 -2 0; 9223372036854775807 -9223372036854775808 7"))
	for _, x := range [][2]int{{0, 0}, {0, 3}, {3, 0}, {api.MaxOrder, 0}, {0, api.MaxOrder}, {api.MaxOrder, api.MaxOrder}} {
		m, e := linear.Make(x[0], x[1], make([]int64, x[0]*x[1])...)
		checkErrno(t, "Make of zeros", e, api.OK)
		checkMatrix(t, "Make of zeros", m, api.Matrix{Rows: x[0], Cols: x[1], Cells: make([]api.Ratio, x[0]*x[1])})
	}
	for _, x := range []struct{ rows, cols, cells int }{
		{2, 2, 3}, {2, 2, 5}, {2, 2, 0}, {0, 0, 1}, {0, 2, 1}, {-1, -1, 1}, {-2, -3, 6}, {-1, 0, 0}, {0, -1, 0},
		{api.MaxOrder + 1, 0, 0}, {0, api.MaxOrder + 1, 0}, {1, api.MaxOrder + 1, api.MaxOrder + 1}, {api.MaxOrder + 1, 1, api.MaxOrder + 1},
		{1 << 32, 1 << 32, 0}, {math.MinInt, 2, 0},
	} {
		m, e := linear.Make(x.rows, x.cols, make([]int64, x.cells)...)
		checkFails(t, "Make", api.ErrShape, m, e)
	}
}

func TestIdentity(t *testing.T) {
	for n, want := range []api.Matrix{empty(0, 0), matrix("1"), matrix("1 0; 0 1"), matrix("1 0 0; 0 1 0; 0 0 1")} {
		m, e := linear.Identity(n)
		checkErrno(t, "Identity", e, api.OK)
		checkMatrix(t, "Identity", m, want)
	}
	m, e := linear.Identity(api.MaxOrder)
	if e != api.OK || m.Rows != api.MaxOrder || m.Cols != api.MaxOrder || len(m.Cells) != api.MaxOrder*api.MaxOrder {
		t.Error("Identity of MaxOrder", m.Rows, m.Cols, e)
	}
	for _, n := range []int{-1, api.MaxOrder + 1, math.MinInt, math.MaxInt, 1 << 32} {
		m, e := linear.Identity(n)
		checkFails(t, "Identity", api.ErrShape, m, e)
	}
}

func TestCell(t *testing.T) {
	m := matrix("1 1/2 3; 4 -5 6/7")
	for i := range 2 {
		for j := range 3 {
			r, e := linear.Cell(m, i, j)
			checkErrno(t, "Cell", e, api.OK)
			checkRatio(t, "Cell", r, m.Cells[3*i+j])
		}
	}
	r, e := linear.Cell(api.Matrix{Rows: 1, Cols: 2, Cells: []api.Ratio{{Num: exact.Of(6), Den: exact.Of(-4)}, {Num: exact.Of(5)}}}, 0, 0)
	checkErrno(t, "Cell not in normal form", e, api.OK)
	checkRatio(t, "Cell not in normal form", r, ratio("-3/2"))
	for _, x := range [][2]int{{-1, 0}, {0, -1}, {2, 0}, {0, 3}, {1, 3}, {2, -1}, {math.MaxInt, 0}, {0, math.MinInt}, {-1, 3}} {
		r, e := linear.Cell(m, x[0], x[1])
		checkFails(t, "Cell", api.ErrRange, r, e)
	}
	for _, m := range []api.Matrix{empty(0, 0), empty(0, 2), empty(2, 0)} {
		r, e := linear.Cell(m, 0, 0)
		checkFails(t, "Cell of "+show(m), api.ErrRange, r, e)
	}
	for _, m := range invalid() {
		for _, i := range []int{0, 99} {
			r, e := linear.Cell(m, i, 0)
			checkFails(t, "Cell of "+show(m), api.ErrShape, r, e)
		}
	}
}

func TestSame(t *testing.T) {
	l := []api.Matrix{empty(0, 0), empty(0, 2), empty(2, 0), empty(3, 0), matrix("0"), matrix("1"), matrix("-1"), matrix("1/2"),
		matrix("1 2 3 4"), matrix("1; 2; 3; 4"), matrix("1 2; 3 4"), matrix("1 2; 3 5"), matrix("2 1; 3 4"), matrix("1 3; 2 4")}
	for i, a := range l {
		for j, b := range l {
			if got := linear.Same(a, b); got != (i == j) {
				t.Error("Same of", show(a), "and", show(b), "is", got)
			}
		}
		for _, b := range invalid() {
			if linear.Same(a, b) || linear.Same(b, a) || linear.Same(b, b) {
				t.Error("Same of", show(a), "and the invalid", show(b))
			}
		}
	}
	messy := api.Matrix{Rows: 1, Cols: 3, Cells: []api.Ratio{{Num: exact.Of(7)}, {Num: exact.Of(-2), Den: exact.Of(-4)}, {Num: api.Int{Words: []uint32{3, 0}}, Den: exact.Of(1)}}}
	if !linear.Same(messy, matrix("0 1/2 3")) || !linear.Same(matrix("0 1/2 3"), messy) || linear.Same(messy, matrix("0 1/2 2")) {
		t.Error("Same of cells that are not in normal form")
	}
}

// P2.2

func TestSumsAndProducts(t *testing.T) {
	r := rand.New(rand.NewSource(1))
	for range 300 {
		rows, cols, deep := r.Intn(5), r.Intn(5), r.Intn(5)
		a, b, c := random(r, rows, cols), random(r, rows, cols), random(r, cols, deep)
		got, e := linear.Add(a, b)
		checkErrno(t, "Add", e, api.OK)
		checkMatrix(t, "Add", got, plainAdd(a, 1, b))
		got, e = linear.Mul(a, c)
		checkErrno(t, "Mul", e, api.OK)
		checkMatrix(t, "Mul", got, plainMul(a, c))
		got, e = linear.Transpose(a)
		checkErrno(t, "Transpose", e, api.OK)
		checkMatrix(t, "Transpose", got, plainTranspose(a))
		got, e = linear.Scale(a, ratio("-4"))
		checkErrno(t, "Scale", e, api.OK)
		checkMatrix(t, "Scale", got, plainAdd(plainAdd(a, -1, a), -4, a))
	}
	got, e := linear.Scale(matrix("3 0; -1/2 4"), ratio("2/3"))
	checkErrno(t, "Scale", e, api.OK)
	checkMatrix(t, "Scale", got, matrix("2 0; -1/3 8/3"))
	got, e = linear.Scale(matrix("3 0; -1/2 4"), api.Ratio{Num: exact.Of(9)})
	checkErrno(t, "Scale by 0", e, api.OK)
	checkMatrix(t, "Scale by 0", got, matrix("0 0; 0 0"))
}

func TestProductsOverNothing(t *testing.T) {
	got, e := linear.Mul(empty(2, 0), empty(0, 3))
	checkErrno(t, "Mul", e, api.OK)
	checkMatrix(t, "Mul", got, matrix("0 0 0; 0 0 0"))
	got, e = linear.Mul(empty(0, 2), matrix("1; 2"))
	checkErrno(t, "Mul", e, api.OK)
	checkMatrix(t, "Mul", got, empty(0, 1))
}

func TestSumsOfSizesThatDoNotFit(t *testing.T) {
	for _, x := range [][2]api.Matrix{{matrix("1 2"), matrix("1; 2")}, {matrix("1 2"), matrix("1 2 3")}, {empty(0, 2), empty(2, 0)}, {matrix("1 2; 3 4"), matrix("1 2")}} {
		m, e := linear.Add(x[0], x[1])
		checkFails(t, "Add", api.ErrShape, m, e)
	}
	for _, x := range [][2]api.Matrix{{matrix("1 2"), matrix("1 2")}, {matrix("1 2"), matrix("1; 2; 3")}, {empty(0, 2), empty(0, 2)}, {matrix("1"), empty(0, 1)}} {
		m, e := linear.Mul(x[0], x[1])
		checkFails(t, "Mul", api.ErrShape, m, e)
	}
	for _, x := range [][2]api.Matrix{{matrix("1 2"), matrix("1 2 3")}, {empty(0, 2), empty(0, 3)}, {empty(api.MaxOrder, 0), empty(1, 1)}} {
		m, e := linear.Stack(x[0], x[1])
		checkFails(t, "Stack", api.ErrShape, m, e)
	}
}

func TestPick(t *testing.T) {
	m := matrix("1 2 3; 4 5/2 6")
	for _, x := range []struct {
		rows, cols []int
		want       api.Matrix
	}{
		{[]int{1, 0}, []int{2, 0}, matrix("6 4; 3 1")},
		{[]int{1, 1, 1}, []int{1}, matrix("5/2; 5/2; 5/2")},
		{[]int{0}, []int{2, 2, 0, 1}, matrix("3 3 1 2")},
		{nil, []int{1, 2}, empty(0, 2)},
		{[]int{0, 1}, []int{}, empty(2, 0)},
		{nil, nil, empty(0, 0)},
	} {
		got, e := linear.Pick(m, x.rows, x.cols)
		checkErrno(t, "Pick", e, api.OK)
		checkMatrix(t, "Pick", got, x.want)
	}
	for _, x := range [][2][]int{{{0, 2}, {0}}, {{0}, {3}}, {{-1}, {0}}, {{0}, {0, -1}}, {{math.MinInt}, nil}, {nil, {math.MaxInt}}} {
		got, e := linear.Pick(m, x[0], x[1])
		checkFails(t, "Pick", api.ErrRange, got, e)
	}
	got, e := linear.Pick(empty(0, 3), []int{0}, nil)
	checkFails(t, "Pick of no rows", api.ErrRange, got, e)
}

func TestPickTooMany(t *testing.T) {
	m := matrix("1 2 3; 4 5/2 6")
	most := slices.Repeat([]int{1}, api.MaxOrder)
	more := append(slices.Clone(most), 0)
	got, e := linear.Pick(m, most, most)
	if e != api.OK || got.Rows != api.MaxOrder || got.Cols != api.MaxOrder || exact.Show(got.Cells[api.MaxOrder*api.MaxOrder-1]) != "5/2" {
		t.Error("Pick of MaxOrder rows and columns", got.Rows, got.Cols, e)
	}
	for _, x := range [][2][]int{{more, nil}, {nil, more}, {more, more}} {
		got, e := linear.Pick(m, x[0], x[1])
		checkFails(t, "Pick of too many", api.ErrLong, got, e)
	}
	got, e = linear.Pick(m, more, []int{3})
	checkFails(t, "Pick of too many, and what does not exist", api.ErrRange, got, e)
	got, e = linear.Pick(empty(1, 2), more, []int{3})
	checkFails(t, "Pick of too many of an invalid matrix", api.ErrShape, got, e)
}

func TestStack(t *testing.T) {
	for _, x := range [][3]api.Matrix{
		{matrix("1 2"), matrix("3 1/2; 5 6"), matrix("1 2; 3 1/2; 5 6")},
		{empty(0, 2), matrix("3 4"), matrix("3 4")},
		{matrix("3 4"), empty(0, 2), matrix("3 4")},
		{empty(2, 0), empty(3, 0), empty(5, 0)},
		{empty(0, 0), empty(0, 0), empty(0, 0)},
		{empty(60, 0), empty(4, 0), empty(64, 0)},
	} {
		got, e := linear.Stack(x[0], x[1])
		checkErrno(t, "Stack", e, api.OK)
		checkMatrix(t, "Stack", got, x[2])
	}
	for _, x := range [][2]api.Matrix{{empty(60, 0), empty(5, 0)}, {unit(api.MaxOrder), unit(api.MaxOrder)}} {
		got, e := linear.Stack(x[0], x[1])
		checkFails(t, "Stack", api.ErrLong, got, e)
	}
}
