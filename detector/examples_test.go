package detector_test

import (
	"testing"

	"hodoscope/api"
	"hodoscope/detector"
)

// The rows of the chapter's table of examples.

// example is a detector with the chapter's plane, slab and cable.
func example() api.Detector {
	return api.Detector{Name: "example", Planes: []api.Plane{plane(0, 100, 4, 2, 5, 7, 1)}, Field: []api.Slab{slab(0, 10, 20, 3)}, Cables: []api.Cable{cable(2, 5, 0, 1, 0, 3, 2, 100, 200)}}
}

func checkPair(t *testing.T, what string, got, want any) {
	t.Helper()
	if got != want {
		t.Error(what, got, want)
	}
}

func TestExamplesOfPlaces(t *testing.T) {
	g, e := detector.Global(1, [3]int{10, 2, 3})
	checkPair(t, "Global", g, [3]int{-2, 10, 3})
	l, f := detector.Local(5, [3]int{1, 2, -9})
	checkPair(t, "Local", l, [3]int{9, 2, 1})
	checkPair(t, "errors", [2]api.Errno{e, f}, [2]api.Errno{})
	p := example().Planes[0]
	x, y, _ := detector.Centre(p, 0, 0)
	checkPair(t, "Centre of (0, 0)", [2]int{x, y}, [2]int{-15, -7})
	x, y, _ = detector.Centre(p, 3, 1)
	checkPair(t, "Centre of (3, 1)", [2]int{x, y}, [2]int{15, 7})
	col, row, ok := detector.At(p, -20, 0)
	checkPair(t, "At(-20, 0)", [3]any{col, row, ok}, [3]any{0, 1, true})
	_, _, ok = detector.At(p, 20, 0)
	checkPair(t, "At(20, 0)", ok, false)
	key, _ := detector.Key(cell(1, 2, 3))
	checkPair(t, "Key", key, 1050627)
	c, _ := detector.Keyed(1050627)
	checkPair(t, "Keyed", c, cell(1, 2, 3))
}

func TestExamplesOfFields(t *testing.T) {
	d := example()
	checkPair(t, "Field", [3]int{detector.Field(d, 0, 9), detector.Field(d, 0, 10), detector.Field(d, 0, 20)}, [3]int{0, 3, 0})
	checkPair(t, "Integral", [2]int{detector.Integral(d, 0, 15), detector.Integral(d, 0, 30)}, [2]int{15, 30})
	checkPair(t, "Bend", [4]int{detector.Bend(d, 0, 10), detector.Bend(d, 0, 11), detector.Bend(d, 0, 20), detector.Bend(d, 0, 30)}, [4]int{0, 3, 300, 900})
}

func TestExamplesOfCables(t *testing.T) {
	d := example()
	c, e := detector.Resolve(d, 150, chip(2, 5), 3)
	checkPair(t, "Resolve of 3", [2]any{c, e}, [2]any{cell(0, 2, 1), api.OK})
	checkFails(t, "Resolve at 200", api.ErrNone, results(detector.Resolve(d, 200, chip(2, 5), 3))...)
	checkFails(t, "Resolve of 6", api.ErrRange, results(detector.Resolve(d, 150, chip(2, 5), 6))...)
	h, addr, e := detector.Where(d, 150, cell(0, 3, 0))
	checkPair(t, "Where", [3]any{h, addr, e}, [3]any{chip(2, 5), 4, api.OK})
}

func TestExamplesOfLines(t *testing.T) {
	d := example()
	l := line(1, -1<<18, 0, 0, 0)
	for depth, want := range map[int][2]int{0: {1, 0}, 6: {-1, 0}, 100: {-24, 0}} {
		x, y, e := detector.Cross(d, 0, l, depth)
		checkPair(t, "Cross", [2]int{x, y}, want)
		checkPair(t, "Cross", e, api.OK)
	}
	cells, e := detector.Swim(d, 0, l)
	checkPair(t, "Swim", [2]any{len(cells), e}, [2]any{0, api.OK})
}

func TestExampleOfTexts(t *testing.T) {
	checkRefused(t, "detector a\nplane 0 1 1 1 1 1 0", 2, api.ErrForm)
}
