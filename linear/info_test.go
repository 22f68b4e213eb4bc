package linear_test

import (
	"math"
	"math/rand"
	"testing"

	"hodoscope/api"
	"hodoscope/exact"
	"hodoscope/linear"
)

// P2.6

// badInfos are informations that are not valid.
func badInfos() []api.Info {
	l := []api.Info{
		{N: matrix("1 2; 3 4"), R: matrix("1; 2")},             // not symmetric
		{N: matrix("1 2 3; 2 4 5"), R: matrix("1; 2")},         // not square
		{N: matrix("1 2; 2 4"), R: matrix("1 2")},              // a row
		{N: matrix("1 2; 2 4"), R: matrix("1 2; 2 4")},         // two columns
		{N: matrix("1 2; 2 4"), R: matrix("1; 2; 3")},          // too long
		{N: matrix("1 2; 2 4"), R: matrix("1")},                // too short
		{N: matrix("1 2; 2 4"), R: empty(2, 0)},                // no column
		{N: empty(0, 0), R: empty(0, 0)},                       // no column
		{N: empty(0, 0), R: matrix("1")},                       // too long
		{N: empty(2, 0), R: matrix("1; 2")},                    // not square
		{N: matrix("1 2 0; 2 4 7; 0 7 0"), R: empty(3, 1)},     // without cells
		{N: matrix("1 2 3; 2 4 7; 0 7 0"), R: matrix("1;2;3")}, // not symmetric in the corners
	}
	for _, m := range invalid() {
		l = append(l, api.Info{N: m, R: matrix("1")}, api.Info{N: matrix("1"), R: m}, api.Info{N: m, R: m})
	}
	return l
}

// messyInfo has cells that are not in normal form: N is 2 1/2, 1/2 3; R 0, -1; C -3/2.
func messyInfo() api.Info {
	half := api.Ratio{Num: exact.Of(-3), Den: exact.Of(-6)}
	return api.Info{
		N:     api.Matrix{Rows: 2, Cols: 2, Cells: []api.Ratio{{Num: exact.Of(4), Den: exact.Of(2)}, ratio("1/2"), half, ratio("3")}},
		R:     api.Matrix{Rows: 2, Cols: 1, Cells: []api.Ratio{{Num: exact.Of(4)}, {Num: exact.Of(5), Den: api.Int{Neg: true, Words: []uint32{5, 0}}}}},
		C:     api.Ratio{Num: exact.Of(9), Den: exact.Of(-6)},
		Count: -7,
	}
}

func TestCheckInfo(t *testing.T) {
	for _, f := range badInfos() {
		checkErrno(t, showInfo(f), linear.CheckInfo(f), api.ErrShape)
	}
	for _, f := range []api.Info{
		{N: empty(0, 0), R: empty(0, 1)},
		{N: matrix("-1"), R: matrix("1"), C: ratio("-1"), Count: -5},
		{N: matrix("0 0; 0 0"), R: matrix("1; 2")},
		{N: unit(api.MaxOrder), R: blanks(api.MaxOrder, 1)},
		messyInfo(),
	} {
		checkErrno(t, showInfo(f), linear.CheckInfo(f), api.OK)
	}
}

func TestBlank(t *testing.T) {
	for _, n := range []int{0, 1, 2, 5, api.MaxOrder} {
		f, e := linear.Blank(n)
		checkErrno(t, "Blank", e, api.OK)
		checkInfo(t, "Blank", f, api.Info{N: blanks(n, n), R: blanks(n, 1)})
	}
	for _, n := range []int{-1, api.MaxOrder + 1, math.MinInt, math.MaxInt} {
		f, e := linear.Blank(n)
		checkFails(t, "Blank", api.ErrShape, f, e)
	}
}

// plainMeasure is what the chapter says.
func plainMeasure(f api.Info, h, y, v api.Matrix) api.Info {
	w, is := plainInverse(v)
	if !is {
		panic("no inverse of " + show(v))
	}
	hw, yw := plainMul(plainTranspose(h), w), plainMul(plainTranspose(y), w)
	c := rat(f.C)
	return api.Info{
		N:     plainAdd(f.N, 1, plainMul(hw, h)),
		R:     plainAdd(f.R, 1, plainMul(hw, y)),
		C:     plainRatio(c.Add(c, single(plainMul(yw, y)))),
		Count: f.Count + h.Rows,
	}
}

func TestMeasure(t *testing.T) {
	r := rand.New(rand.NewSource(6))
	for range 200 {
		n, rows := r.Intn(5), r.Intn(4)
		f, h, y, v := randomInfo(r, n), random(r, rows, n), random(r, rows, 1), firm(r, rows)
		got, e := linear.Measure(f, h, y, v)
		checkErrno(t, "Measure", e, api.OK)
		checkInfo(t, "Measure", got, plainMeasure(f, h, y, v))
		x := random(r, n, 1)
		d := plainAdd(y, -1, plainMul(h, x))
		w, _ := plainInverse(v)
		more := single(plainMul(plainTranspose(d), plainMul(w, d)))
		checkRatio(t, "Measure: the sum of squares", plainRatio(plainValue(got, x)), plainRatio(more.Add(more, plainValue(f, x))))
	}
	got, e := linear.Measure(messyInfo(), empty(0, 2), empty(0, 1), empty(0, 0))
	checkErrno(t, "Measure of nothing", e, api.OK)
	checkInfo(t, "Measure of nothing", got, api.Info{N: matrix("2 1/2; 1/2 3"), R: matrix("0; -1"), C: ratio("-3/2"), Count: -7})
}

func TestMeasureOfMaxOrder(t *testing.T) {
	n := api.MaxOrder
	blank, _ := linear.Blank(n)
	y := plainPick(tent(n), span(0, n), []int{2})
	f, e := linear.Measure(blank, unit(n), y, tent(n))
	checkErrno(t, "Measure", e, api.OK)
	x, cov, chi, e := linear.Estimate(f)
	checkErrno(t, "Estimate", e, api.OK)
	checkMatrix(t, "x", x, y)
	checkMatrix(t, "cov", cov, tent(n))
	checkRatio(t, "chi", chi, ratio("0"))
	if f.Count != n {
		t.Error("Count", f.Count)
	}
}

func TestMeasureErrors(t *testing.T) {
	f := api.Info{N: unit(2), R: matrix("1; 2"), C: ratio("3"), Count: 4}
	h, y, v := matrix("1 0; 1 1"), matrix("1; 2"), matrix("2 1; 1 2")
	for _, x := range []struct {
		h, y, v api.Matrix
		e       api.Errno
	}{
		{matrix("1; 1"), y, v, api.ErrShape},
		{matrix("1 1 1; 1 1 1"), y, v, api.ErrShape},
		{h, matrix("1"), v, api.ErrShape},
		{h, matrix("1 2"), v, api.ErrShape},
		{h, unit(2), v, api.ErrShape},
		{h, y, matrix("1"), api.ErrShape},
		{h, y, matrix("1 0 0; 0 1 0"), api.ErrShape},
		{h, y, unit(3), api.ErrShape},
		{empty(0, 2), empty(0, 1), v, api.ErrShape},
		{empty(0, 2), empty(0, 0), empty(0, 0), api.ErrShape},
		{h, matrix("1"), matrix("0 0; 0 0"), api.ErrShape},
		{h, y, matrix("1 1; 1 1"), api.ErrWeight},
		{h, y, matrix("0 0; 0 0"), api.ErrWeight},
		{h, y, matrix("1 2; 2 1"), api.ErrWeight},
		{h, y, matrix("-2 0; 0 -2"), api.ErrWeight},
		{h, y, matrix("2 1; 0 2"), api.ErrWeight},
		{h, y, matrix("0 1; 1 0"), api.ErrWeight},
	} {
		got, e := linear.Measure(f, x.h, x.y, x.v)
		checkFails(t, "Measure with "+show(x.h)+", "+show(x.y)+", "+show(x.v), x.e, got, e)
	}
}

func TestCombine(t *testing.T) {
	r := rand.New(rand.NewSource(7))
	for range 50 {
		n := r.Intn(5)
		f, g := randomInfo(r, n), randomInfo(r, n)
		got, e := linear.Combine(f, g)
		checkErrno(t, "Combine", e, api.OK)
		c := rat(f.C)
		checkInfo(t, "Combine", got, api.Info{N: plainAdd(f.N, 1, g.N), R: plainAdd(f.R, 1, g.R), C: plainRatio(c.Add(c, rat(g.C))), Count: f.Count + g.Count})
	}
	got, e := linear.Combine(messyInfo(), messyInfo())
	checkErrno(t, "Combine", e, api.OK)
	checkInfo(t, "Combine", got, api.Info{N: matrix("4 1; 1 6"), R: matrix("0; -2"), C: ratio("-3"), Count: -14})
	one, two := randomInfo(r, 1), randomInfo(r, 2)
	for _, x := range [][2]api.Info{{one, two}, {two, one}} {
		got, e := linear.Combine(x[0], x[1])
		checkFails(t, "Combine", api.ErrShape, got, e)
	}
}

func TestCountsWrapAround(t *testing.T) {
	f := api.Info{N: unit(1), R: matrix("1"), C: ratio("1"), Count: math.MaxInt}
	g := f
	g.Count = 2
	got, e := linear.Combine(f, g)
	if e != api.OK || got.Count != math.MinInt+1 {
		t.Error("Combine", got.Count, e)
	}
	got, e = linear.Measure(f, matrix("1"), matrix("1"), matrix("1"))
	if e != api.OK || got.Count != math.MinInt {
		t.Error("Measure", got.Count, e)
	}
	f.Count = math.MinInt
	got, e = linear.Combine(f, f)
	if e != api.OK || got.Count != 0 {
		t.Error("Combine of the least counts", got.Count, e)
	}
	got, e = linear.Marginal(f, nil)
	if e != api.OK || got.Count != math.MaxInt {
		t.Error("Marginal", got.Count, e)
	}
}

// P2.7

func TestEstimate(t *testing.T) {
	r := rand.New(rand.NewSource(8))
	for range 100 {
		f := randomInfo(r, r.Intn(5))
		if r.Intn(3) == 0 { // N need not be definite
			half := random(r, f.N.Rows, f.N.Rows)
			f.N = plainAdd(half, 1, plainTranspose(half))
		}
		x, cov, chi, e := linear.Estimate(f)
		inverse, is := plainInverse(f.N)
		if !is {
			checkFails(t, "Estimate", api.ErrSingular, x, cov, chi, e)
			continue
		}
		checkErrno(t, "Estimate", e, api.OK)
		checkMatrix(t, "Estimate: cov", cov, inverse)
		checkMatrix(t, "Estimate: x", x, plainMul(inverse, f.R))
		checkRatio(t, "Estimate: chi", chi, plainRatio(plainValue(f, x)))
	}
	x, cov, chi, e := linear.Estimate(api.Info{N: empty(0, 0), R: empty(0, 1), C: ratio("-5/2")})
	checkErrno(t, "Estimate of no parameters", e, api.OK)
	checkMatrix(t, "Estimate of no parameters: x", x, empty(0, 1))
	checkMatrix(t, "Estimate of no parameters: cov", cov, empty(0, 0))
	checkRatio(t, "Estimate of no parameters: chi", chi, ratio("-5/2"))
	for _, s := range []string{"0 0; 0 0", "1 1; 1 1", "1 2; 2 4"} {
		x, cov, chi, e := linear.Estimate(api.Info{N: matrix(s), R: matrix("1; 1")})
		checkFails(t, "Estimate", api.ErrSingular, x, cov, chi, e)
	}
}
