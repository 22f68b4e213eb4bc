package detector_test

import (
	"math"
	"math/rand"
	"reflect"
	"slices"
	"testing"

	"hodoscope/api"
	"hodoscope/detector"
)

// The numbers of planes, slabs, cables and lines are given in the order of the chapter's texts.

func plane(face, depth, cols, rows, halfX, halfY, thick int) api.Plane {
	return api.Plane{Face: face, Depth: depth, Cols: cols, Rows: rows, HalfX: halfX, HalfY: halfY, Thick: thick}
}

func slab(face, from, to, b int) api.Slab {
	return api.Slab{Face: face, From: from, To: to, B: b}
}

func cable(link, slot, plane, col, row, wide, high, from, to int) api.Cable {
	return api.Cable{Link: link, Slot: slot, Plane: plane, Col: col, Row: row, Wide: wide, High: high, From: from, To: to}
}

func cell(plane, col, row int) api.Cell { return api.Cell{Plane: plane, Col: col, Row: row} }

func chip(link, slot int) api.Chip { return api.Chip{Link: link, Slot: slot} }

func line(x0, x1, k, y0, y1 int) api.Line { return api.Line{X0: x0, X1: x1, K: k, Y0: y0, Y1: y1} }

// sample is a valid detector with planes that are not in the order of their depths, and cables that change with time.
func sample() api.Detector {
	return api.Detector{
		Name: "sample-1",
		Planes: []api.Plane{
			plane(0, 100, 4, 2, 5, 7, 1),
			plane(6, 0, 8, 6, 10, 10, 0),
			plane(0, 40, 3, 3, 20, 20, 1000),
			plane(0, 65536, 1024, 1024, 4096, 4096, 0),
			plane(5, 1, 1, 1, 1, 1, 10),
			plane(4, 100, 6, 4, 3, 9, 20),
			plane(0, 101, 2, 5, 8, 6, 300),
		},
		Field: []api.Slab{slab(0, 50, 60, -7), slab(0, 0, 30, 1024), slab(4, 20, 65536, 3), slab(0, 60, 100, 11)},
		Cables: []api.Cable{
			cable(2, 5, 0, 1, 0, 3, 2, 100, 200),
			cable(0, 31, 5, 0, 0, 2, 4, 0, 1<<40),
			cable(15, 0, 3, 960, 960, 64, 64, 50, 150),
			cable(2, 5, 1, 0, 0, 8, 6, 200, 300),
			cable(2, 4, 0, 1, 0, 1, 2, 200, 250),
			cable(0, 30, 5, 2, 0, 2, 4, 150, 151),
		},
	}
}

// with returns the sample after a change.
func with(change func(d *api.Detector)) api.Detector {
	d := sample()
	change(&d)
	return d
}

// invalid returns detectors that are not valid, with a fault in each part.
func invalid() []api.Detector {
	return []api.Detector{
		{},
		with(func(d *api.Detector) { d.Name = "Sample" }),
		with(func(d *api.Detector) { d.Planes = nil }),
		with(func(d *api.Detector) { d.Planes[6].HalfX = 0 }),
		with(func(d *api.Detector) { d.Planes[2].Depth = 100 }),
		with(func(d *api.Detector) { d.Field[3].B = 1025 }),
		with(func(d *api.Detector) { d.Field[3].From = 59 }),
		with(func(d *api.Detector) { d.Cables[5].Plane = 7 }),
		with(func(d *api.Detector) { d.Cables[5].Col = 1 }),
	}
}

// odd returns numbers at and beyond the ends of the ranges.
func odd() []int {
	l := []int{math.MinInt, math.MinInt + 1, math.MaxInt - 1, math.MaxInt, -1, 0, 1, 2}
	for _, n := range []int{api.MaxDepth, api.MaxReach, api.MaxSide, api.MaxChip, 1 << 26, 1 << 62} {
		l = append(l, -n-1, -n, n-1, n, n+1)
	}
	return l
}

func clone(d api.Detector) api.Detector {
	return api.Detector{Name: d.Name, Planes: slices.Clone(d.Planes), Field: slices.Clone(d.Field), Cables: slices.Clone(d.Cables)}
}

func same(a, b api.Detector) bool {
	return a.Name == b.Name && slices.Equal(a.Planes, b.Planes) && slices.Equal(a.Field, b.Field) && slices.Equal(a.Cables, b.Cables)
}

// checkFails checks the error, which is the last of the results, and that the others are zero values.
func checkFails(t *testing.T, what any, want api.Errno, results ...any) {
	t.Helper()
	last := len(results) - 1
	if results[last] != want {
		t.Errorf("%v: error %v, want %d", what, results[last], want)
	}
	checkNothing(t, what, results[:last]...)
}

// checkNothing checks that all results are zero values; lists may be empty.
func checkNothing(t *testing.T, what any, results ...any) {
	t.Helper()
	for _, r := range results {
		v := reflect.ValueOf(r)
		if v.Kind() == reflect.Slice && v.Len() > 0 || v.Kind() != reflect.Slice && !v.IsZero() {
			t.Errorf("%v: there is no value, but %v", what, r)
		}
	}
}

// results makes a list of what a call returns.
func results(l ...any) []any { return l }

func between(r *rand.Rand, least, greatest int) int { return least + r.Intn(greatest-least+1) }

// random returns a detector with small planes, slabs that meet often, and cables of few chips and times. It may be not
// valid; try makes valid ones of it.
func random(r *rand.Rand) api.Detector {
	d := api.Detector{Name: "random"}
	for range between(r, 1, 8) {
		d.Planes = append(d.Planes, plane(between(r, 0, 5), between(r, 1, 30), between(r, 1, 6), between(r, 1, 6), between(r, 1, 5), between(r, 1, 5), between(r, 0, 9)))
	}
	for range between(r, 0, 6) {
		from := between(r, 0, 30)
		d.Field = append(d.Field, slab(between(r, 0, 5), from, from+between(r, 1, 8), between(r, -9, 9)))
	}
	for range between(r, 0, 8) {
		p := between(r, 0, len(d.Planes)-1)
		col, row, from := between(r, 0, d.Planes[p].Cols-1), between(r, 0, d.Planes[p].Rows-1), between(r, 0, 15)
		wide, high := between(r, 1, d.Planes[p].Cols-col), between(r, 1, d.Planes[p].Rows-row)
		d.Cables = append(d.Cables, cable(between(r, 0, 2), between(r, 0, 3), p, col, row, wide, high, from, from+between(r, 1, 9)))
	}
	return d
}

// valids returns n valid random detectors: the first fault is taken away until there is none.
func valids(r *rand.Rand, n int) []api.Detector {
	var l []api.Detector
	for len(l) < n {
		d := random(r)
		for range 30 {
			part, i, _ := plainCheck(d)
			switch part {
			case 1:
				d.Planes[i].Depth++
			case 2:
				d.Field = slices.Delete(d.Field, i, i+1)
			case 3:
				d.Cables = slices.Delete(d.Cables, i, i+1)
			default:
				l = append(l, d)
			}
			if part == 0 {
				break
			}
		}
	}
	return l
}

// plainCheck is Check of a random detector, by lists of all that is taken: of places, of depths, of chips and cells at times.
func plainCheck(d api.Detector) (part, index int, e api.Errno) {
	taken := map[[5]int]bool{}
	take := func(l ...[5]int) bool {
		free := true
		for _, x := range l {
			free = free && !taken[x]
		}
		for _, x := range l {
			taken[x] = true
		}
		return free
	}
	for i, p := range d.Planes {
		if !take([5]int{0, p.Face, p.Depth}) {
			return 1, i, api.ErrThere
		}
	}
	for i, s := range d.Field {
		var l [][5]int
		for depth := s.From; depth < s.To; depth++ {
			l = append(l, [5]int{1, s.Face, depth})
		}
		if !take(l...) {
			return 2, i, api.ErrThere
		}
	}
	for i, c := range d.Cables {
		var l [][5]int
		for time := c.From; time < c.To; time++ {
			l = append(l, [5]int{2, c.Link, c.Slot, time})
			for j := range c.Wide * c.High {
				l = append(l, [5]int{3, time, c.Plane, c.Col + j/c.High, c.Row + j%c.High})
			}
		}
		if !take(l...) {
			return 3, i, api.ErrThere
		}
	}
	return 0, 0, api.OK
}

func mustCheck(t *testing.T, d api.Detector) {
	t.Helper()
	if part, index, e := detector.Check(d); part != 0 || index != 0 || e != api.OK {
		t.Fatalf("Check finds %d, %d, error %d in %v", part, index, e, d)
	}
}
