package detector_test

import (
	"math/rand"
	"testing"

	"hodoscope/api"
	"hodoscope/detector"
)

// P3.4, P3.5, P3.13

// span returns from where to below where a cell goes along a coordinate, as the chapter says it.
func span(i, n, half int) (int, int) { return (2*i - n) * half, (2*i + 2 - n) * half }

func checkCell(t *testing.T, p api.Plane, col, row int) {
	t.Helper()
	x, y, e := detector.Centre(p, col, row)
	if x != (2*col+1-p.Cols)*p.HalfX || y != (2*row+1-p.Rows)*p.HalfY || e != api.OK {
		t.Error("Centre", p, col, row, x, y, e)
	}
	left, right := span(col, p.Cols, p.HalfX)
	low, high := span(row, p.Rows, p.HalfY)
	for _, x := range []int{left, x, right - 1} {
		for _, y := range []int{low, y, high - 1} {
			if c, r, ok := detector.At(p, x, y); c != col || r != row || !ok {
				t.Error("At", p, x, y, c, r, ok, "not", col, row)
			}
		}
	}
}

func checkNoCell(t *testing.T, p api.Plane, x, y int) {
	t.Helper()
	col, row, ok := detector.At(p, x, y)
	checkNothing(t, []any{"At", p, x, y}, col, row, ok)
}

func TestCells(t *testing.T) {
	r := rand.New(rand.NewSource(5))
	planes := []api.Plane{
		plane(0, 1, 1, 1, 1, 1, 0), plane(1, 9, 1024, 1024, 4096, 4096, 0), plane(2, 9, 1, 1024, 4096, 1, 0), plane(3, 9, 1023, 2, 1, 4095, 0),
		plane(4, 9, 2, 3, 7, 5, 0), plane(6, 0, 8, 5, 3, 10, 0), plane(6, 0, 1024, 1, 1, 4096, 0),
	}
	for _, p := range planes {
		for _, col := range []int{0, p.Cols / 2, p.Cols - 1, r.Intn(p.Cols), r.Intn(p.Cols)} {
			for _, row := range []int{0, p.Rows / 2, p.Rows - 1, r.Intn(p.Rows), r.Intn(p.Rows)} {
				checkCell(t, p, col, row)
			}
		}
		for _, n := range append(odd(), p.Cols, p.Rows) {
			if n < 0 || n >= p.Cols {
				x, y, e := detector.Centre(p, n, 0)
				checkFails(t, []any{"Centre", p, n, 0}, api.ErrRange, x, y, e)
			}
			if n < 0 || n >= p.Rows {
				x, y, e := detector.Centre(p, 0, n)
				checkFails(t, []any{"Centre", p, 0, n}, api.ErrRange, x, y, e)
			}
		}
		for _, x := range append(odd(), p.Cols*p.HalfX, -p.Cols*p.HalfX-1) {
			if x < -p.Cols*p.HalfX || x >= p.Cols*p.HalfX {
				checkNoCell(t, p, x, 0)
			}
		}
		for _, y := range append(odd(), p.Rows*p.HalfY, -p.Rows*p.HalfY-1) {
			if y < -p.Rows*p.HalfY || y >= p.Rows*p.HalfY {
				checkNoCell(t, p, 0, y)
			}
		}
	}
}

func TestEachPlaceHasAtMostOneCell(t *testing.T) {
	r := rand.New(rand.NewSource(6))
	for range 40 {
		p := plane(between(r, 0, 5), 5, between(r, 1, 5), between(r, 1, 5), between(r, 1, 4), between(r, 1, 4), 0)
		for x := -p.Cols*p.HalfX - 3; x < p.Cols*p.HalfX+3; x++ {
			for y := -p.Rows*p.HalfY - 3; y < p.Rows*p.HalfY+3; y++ {
				var found [][2]int
				for i := range p.Cols * p.Rows {
					left, right := span(i%p.Cols, p.Cols, p.HalfX)
					low, high := span(i/p.Cols, p.Rows, p.HalfY)
					if left <= x && x < right && low <= y && y < high {
						found = append(found, [2]int{i % p.Cols, i / p.Cols})
					}
				}
				col, row, ok := detector.At(p, x, y)
				if len(found) > 1 || ok != (len(found) == 1) || ok && found[0] != [2]int{col, row} {
					t.Error("At", p, x, y, col, row, ok, found)
				}
				if !ok {
					checkNoCell(t, p, x, y)
				}
			}
		}
	}
}

func TestCellsOfPlanesThatAreNotValid(t *testing.T) {
	for _, p := range []api.Plane{{}, plane(7, 1, 1, 1, 1, 1, 0), plane(-1, 1, 1, 1, 1, 1, 0), plane(0, 0, 1, 1, 1, 1, 0), plane(0, 65537, 1, 1, 1, 1, 0), plane(0, 1, 0, 1, 1, 1, 0), plane(0, 1, 1, 1025, 1, 1, 0), plane(0, 1, 1, 1, 0, 1, 0), plane(0, 1, 1, 1, 1, 4097, 0), plane(0, 1, 1, 1, 1, 1, 1001), plane(0, 1, 1, 1, 1, 1, -1), plane(6, 1, 1, 1, 1, 1, 0), plane(6, 0, 1, 1, 1, 1, 1)} {
		for _, n := range []int{0, -1, 5000} {
			x, y, e := detector.Centre(p, n, n)
			checkFails(t, p, api.ErrArg, x, y, e)
		}
		checkNoCell(t, p, 0, 0)
	}
}

func TestKeys(t *testing.T) {
	for _, x := range []struct {
		c   api.Cell
		key int
	}{
		{cell(0, 0, 0), 0}, {cell(0, 0, 1), 1}, {cell(0, 0, 1023), 1023}, {cell(0, 1, 0), 1024}, {cell(0, 1023, 1023), 1<<20 - 1},
		{cell(1, 0, 0), 1 << 20}, {cell(63, 0, 0), 63 << 20}, {cell(63, 1023, 1023), 1<<26 - 1}, {cell(5, 7, 9), 5<<20 + 7<<10 + 9},
	} {
		if key, ok := detector.Key(x.c); key != x.key || !ok {
			t.Error("Key", x.c, key, ok)
		}
		if c, ok := detector.Keyed(x.key); c != x.c || !ok {
			t.Error("Keyed", x.key, c, ok)
		}
	}
	for _, n := range append(outside(0, 1023), 1<<20, -1<<20) {
		checkNothing(t, n, results(detector.Key(cell(1, n, 1)))...)
		checkNothing(t, n, results(detector.Key(cell(1, 1, n)))...)
	}
	for _, n := range outside(0, 63) {
		checkNothing(t, n, results(detector.Key(cell(n, 1, 1)))...)
	}
	for _, n := range outside(0, 1<<26-1) {
		checkNothing(t, n, results(detector.Keyed(n))...)
	}
	r := rand.New(rand.NewSource(7))
	for range 1000 {
		key := r.Intn(1 << 26)
		c, ok := detector.Keyed(key)
		if again, is := detector.Key(c); again != key || !ok || !is {
			t.Error("Keyed", key, c, ok, again, is)
		}
	}
}
