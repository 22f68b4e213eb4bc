package detector_test

import (
	"math/big"
	"math/rand"
	"slices"
	"testing"

	"hodoscope/api"
	"hodoscope/detector"
)

// P3.10

// plainPosition computes with integers of any size; big.Int's Div rounds down.
func plainPosition(d api.Detector, face int, l api.Line, depth int) (x, y int) {
	part := func(n, m int) *big.Int { return new(big.Int).Mul(big.NewInt(int64(n)), big.NewInt(int64(m))) }
	unit := big.NewInt(1 << 20)
	a := part(l.X1, depth)
	a.Add(a, part(l.K, detector.Bend(d, face, depth)))
	b := part(l.Y1, depth)
	return l.X0 + int(a.Div(a, unit).Int64()), l.Y0 + int(b.Div(b, unit).Int64())
}

func checkLine(t *testing.T, d api.Detector, face int, l api.Line, depths ...int) {
	t.Helper()
	for _, depth := range depths {
		wantX, wantY := plainPosition(d, face, l, depth)
		if x, y, e := detector.Cross(d, face, l, depth); x != wantX || y != wantY || e != api.OK {
			t.Error("Cross", d, face, l, depth, x, y, e, wantX, wantY)
		}
	}
	var want []api.Cell
	for _, i := range detector.Stack(d, face) {
		x, y := plainPosition(d, face, l, d.Planes[i].Depth)
		if col, row, ok := detector.At(d.Planes[i], x, y); ok {
			want = append(want, cell(i, col, row))
		}
	}
	if got, e := detector.Swim(d, face, l); !slices.Equal(got, want) || e != api.OK {
		t.Error("Swim", d, face, l, got, e, want)
	}
}

func TestLines(t *testing.T) {
	for _, l := range []api.Line{
		{}, line(0, 1, 0, 0, -1), line(0, -1, 0, 0, 1), line(-5, 1<<19, 0, 3, -1<<19), line(0, 0, 1, 0, 0), line(0, 0, -1, 0, 0),
		line(7, 1<<20, 1<<16, -7, -1<<20), line(1<<40, -1<<20, -1<<16, -1<<40, 1<<20), line(-1<<40, 1<<20, 1<<16, 1<<40, -1<<20),
	} {
		for face := range 6 {
			checkLine(t, sample(), face, l, 0, 1, 2, 3, 29, 30, 31, 55, 60, 100, 101, 65535, 65536)
		}
	}
	d := sample()
	d.Field = []api.Slab{slab(0, 0, 65536, 1024), slab(5, 0, 65536, -1024)}
	for _, face := range []int{0, 5} {
		for _, k := range []int{1 << 16, -1 << 16, 1, -1} {
			checkLine(t, d, face, line(0, 1<<20, k, 0, 0), 0, 1, 65535, 65536)
			checkLine(t, d, face, line(0, -1<<20, k, 0, 0), 0, 1, 65535, 65536)
		}
	}
	if x, y, e := detector.Cross(d, 0, line(0, 0, 1<<16, 0, 0), 65536); x != 1<<38 || y != 0 || e != api.OK {
		t.Error("the greatest bend", x, y, e)
	}
}

func TestQuotientsAreRoundedDown(t *testing.T) {
	for _, x := range [][3]int{{1, 1, 0}, {-1, 1, -1}, {1<<20 - 1, 1, 0}, {1 << 20, 1, 1}, {-1 << 20, 1, -1}, {-1<<20 + 1, 2, -2}, {-1 << 19, 3, -2}, {1 << 19, 3, 1}, {-1, 65536, -1}, {-17, 65536, -2}, {-16, 65536, -1}} {
		if a, b, e := detector.Cross(sample(), 1, line(10, x[0], 0, -10, x[0]), x[1]); a != 10+x[2] || b != x[2]-10 || e != api.OK {
			t.Error("Cross", x, a, b, e)
		}
	}
	// The two parts of x are added before they are rounded.
	d := sample()
	d.Field = []api.Slab{slab(0, 0, 1, 1)}
	if x, _, e := detector.Cross(d, 0, line(0, -1<<19, 0, 0, 0), 1); x != -1 || e != api.OK {
		t.Error("Cross", x, e)
	}
	if x, _, e := detector.Cross(d, 0, line(0, -7, 7, 0, 0), 1); x != 0 || e != api.OK {
		t.Error("Cross", x, e)
	}
	if x, _, e := detector.Cross(d, 0, line(0, 7, -8, 0, 0), 1); x != -1 || e != api.OK {
		t.Error("Cross", x, e)
	}
}

func TestLinesOfRandomDetectors(t *testing.T) {
	r := rand.New(rand.NewSource(13))
	crossed := 0
	for _, d := range valids(r, 500) {
		for range 10 {
			l := line(between(r, -9, 9), between(r, -1<<20, 1<<20), between(r, -1<<14, 1<<14), between(r, -9, 9), between(r, -1<<20, 1<<20))
			face := between(r, 0, 5)
			checkLine(t, d, face, l, between(r, 0, 40), between(r, 0, 65536))
			cells, _ := detector.Swim(d, face, l)
			crossed += len(cells)
		}
	}
	if crossed < 500 {
		t.Error("lines cross too few cells:", crossed)
	}
}

func TestSwim(t *testing.T) {
	d := sample()
	for _, x := range []struct {
		l    api.Line
		want []api.Cell
	}{
		{api.Line{}, []api.Cell{cell(2, 1, 1), cell(0, 2, 1), cell(6, 1, 2), cell(3, 512, 512)}},
		{line(-20, 0, 0, 0, 0), []api.Cell{cell(2, 1, 1), cell(0, 0, 1), cell(3, 511, 512)}},
		{line(20, 0, 0, 0, 0), []api.Cell{cell(2, 2, 1), cell(3, 512, 512)}},
		{line(0, 0, 0, -14, 0), []api.Cell{cell(2, 1, 1), cell(0, 2, 0), cell(6, 1, 1), cell(3, 512, 511)}},
		{line(0, 0, 0, 1<<40, 0), nil},
	} {
		d.Field = nil
		if got, e := detector.Swim(d, 0, x.l); !slices.Equal(got, x.want) || e != api.OK {
			t.Error("Swim", x.l, got, e, x.want)
		}
	}
	if got, e := detector.Swim(d, 1, api.Line{}); len(got) > 0 || e != api.OK {
		t.Error("Swim of a face without planes", got, e)
	}
}

func checkRefusedLine(t *testing.T, d api.Detector, face int, l api.Line, depth int, e api.Errno) {
	t.Helper()
	checkFails(t, []any{"Cross", face, l, depth}, e, results(detector.Cross(d, face, l, depth))...)
	checkFails(t, []any{"Swim", face, l}, e, results(detector.Swim(d, face, l))...)
}

func TestLinesThatAreNotValid(t *testing.T) {
	for _, x := range []struct {
		field    func(l *api.Line) *int
		greatest int
	}{
		{func(l *api.Line) *int { return &l.X0 }, 1 << 40}, {func(l *api.Line) *int { return &l.Y0 }, 1 << 40},
		{func(l *api.Line) *int { return &l.X1 }, 1 << 20}, {func(l *api.Line) *int { return &l.Y1 }, 1 << 20},
		{func(l *api.Line) *int { return &l.K }, 1 << 16},
	} {
		for _, n := range []int{-x.greatest, x.greatest} {
			var l api.Line
			*x.field(&l) = n
			checkLine(t, sample(), 0, l, 0, 65536)
		}
		for _, n := range outside(-x.greatest, x.greatest) {
			var l api.Line
			*x.field(&l) = n
			checkRefusedLine(t, sample(), 0, l, 0, api.ErrRange)
			for _, face := range notFaces() {
				checkRefusedLine(t, sample(), face, l, -1, api.ErrNone)
			}
			checkRefusedLine(t, invalid()[1], 0, l, 0, api.ErrArg)
		}
	}
	for _, face := range notFaces() {
		checkRefusedLine(t, sample(), face, api.Line{}, 0, api.ErrNone)
	}
	for _, d := range invalid() {
		checkRefusedLine(t, d, 0, api.Line{}, 0, api.ErrArg)
		checkRefusedLine(t, d, 6, line(1<<41, 0, 0, 0, 0), -1, api.ErrArg)
	}
	for _, depth := range outside(0, 65536) {
		checkFails(t, depth, api.ErrRange, results(detector.Cross(sample(), 0, api.Line{}, depth))...)
		checkFails(t, depth, api.ErrNone, results(detector.Cross(sample(), 6, api.Line{}, depth))...)
	}
}
