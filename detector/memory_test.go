package detector_test

import (
	"fmt"
	"slices"
	"testing"

	"hodoscope/api"
	"hodoscope/detector"
)

// R3, R4 and P0.1: what holds for all functions.

// call is a call of a function, with a number for all of its numbers but the detector.
type call struct {
	name string
	do   func(d api.Detector, n int) []any
}

func calls() []call {
	return []call{
		{"Check", func(d api.Detector, n int) []any { return results(detector.Check(d)) }},
		{"Print", func(d api.Detector, n int) []any { return results(detector.Print(d)) }},
		{"Parse", func(d api.Detector, n int) []any { return results(detector.Parse(detector.Print(d))) }},
		{"Axes", func(d api.Detector, n int) []any { return results(detector.Axes(n)) }},
		{"Global", func(d api.Detector, n int) []any { return results(detector.Global(n%8, [3]int{n, n, n})) }},
		{"Local", func(d api.Detector, n int) []any { return results(detector.Local(n%8, [3]int{n, n, n})) }},
		{"Centre", func(d api.Detector, n int) []any { return results(detector.Centre(d.Planes[0], n, n)) }},
		{"Centre of an odd plane", func(d api.Detector, n int) []any { return results(detector.Centre(plane(n, n, n, n, n, n, n), n, n)) }},
		{"At", func(d api.Detector, n int) []any { return results(detector.At(d.Planes[0], n, -n)) }},
		{"At of an odd plane", func(d api.Detector, n int) []any { return results(detector.At(plane(n, n, n, n, n, n, n), n, n)) }},
		{"Key", func(d api.Detector, n int) []any { return results(detector.Key(cell(n, n, n))) }},
		{"Keyed", func(d api.Detector, n int) []any { return results(detector.Keyed(n)) }},
		{"Stack", func(d api.Detector, n int) []any { return results(detector.Stack(d, n)) }},
		{"Field", func(d api.Detector, n int) []any { return results(detector.Field(d, 0, n), detector.Field(d, n, n)) }},
		{"Integral", func(d api.Detector, n int) []any {
			return results(detector.Integral(d, 0, n), detector.Integral(d, n, n))
		}},
		{"Bend", func(d api.Detector, n int) []any { return results(detector.Bend(d, 0, n), detector.Bend(d, n, n)) }},
		{"Thickness", func(d api.Detector, n int) []any {
			return results(detector.Thickness(d, 0, n, -n), detector.Thickness(d, n, n, n))
		}},
		{"Live", func(d api.Detector, n int) []any { return results(detector.Live(d, n)) }},
		{"Times", func(d api.Detector, n int) []any { return results(detector.Times(d)) }},
		{"Chips", func(d api.Detector, n int) []any { return results(detector.Chips(d, n)) }},
		{"Resolve", func(d api.Detector, n int) []any { return results(detector.Resolve(d, n, chip(n, n), n)) }},
		{"Resolve of a chip", func(d api.Detector, n int) []any { return results(detector.Resolve(d, 150, chip(2, 5), n)) }},
		{"Where", func(d api.Detector, n int) []any { return results(detector.Where(d, 150, cell(0, n, n))) }},
		{"Cross", func(d api.Detector, n int) []any { return results(detector.Cross(d, 0, line(n, n, n, n, n), n)) }},
		{"Cross far away", func(d api.Detector, n int) []any { return results(detector.Cross(d, n, line(0, 0, 0, 0, 0), n)) }},
		{"Swim", func(d api.Detector, n int) []any { return results(detector.Swim(d, 0, line(n, n, n, n, n))) }},
		{"Swim straight", func(d api.Detector, n int) []any { return results(detector.Swim(d, n, line(0, 0, 0, 0, 0))) }},
	}
}

// roomy returns a detector whose lists have memory beyond their ends.
func roomy(d api.Detector) api.Detector {
	d.Planes = append(slices.Clone(d.Planes), plane(1, 2, 3, 4, 5, 6, 7), plane(9, 9, 9, 9, 9, 9, 9))[:len(d.Planes)]
	d.Field = append(slices.Clone(d.Field), slab(1, 2, 3, 4), slab(9, 9, 9, 9))[:len(d.Field)]
	d.Cables = append(slices.Clone(d.Cables), cable(1, 2, 3, 4, 5, 6, 7, 8, 9), cable(9, 9, 9, 9, 9, 9, 9, 9, 9))[:len(d.Cables)]
	return d
}

// full is d with all the memory of its lists.
func full(d api.Detector) api.Detector {
	d.Planes, d.Field, d.Cables = d.Planes[:cap(d.Planes)], d.Field[:cap(d.Field)], d.Cables[:cap(d.Cables)]
	return d
}

// spoil overwrites the memory of a result.
func spoil(result any) {
	switch x := result.(type) {
	case []int:
		for i := range x[:cap(x)] {
			x[:cap(x)][i] = -77
		}
	case []api.Chip:
		for i := range x[:cap(x)] {
			x[:cap(x)][i] = chip(-77, -77)
		}
	case []api.Cell:
		for i := range x[:cap(x)] {
			x[:cap(x)][i] = cell(-77, -77, -77)
		}
	case api.Detector:
		x = full(x)
		clear(x.Planes)
		clear(x.Field)
		clear(x.Cables)
	}
}

func TestArgumentsAreOnlyReadAndResultsAreNew(t *testing.T) {
	for _, c := range calls() {
		for _, n := range append(odd(), 4, 5, 6, 100, 150, 200) {
			d := roomy(sample())
			before := clone(full(d))
			got := c.do(d, n)
			if !same(full(d), before) {
				t.Fatal(c.name, "changes its arguments,", n)
			}
			text := fmt.Sprint(got...)
			again := c.do(d, n)
			for _, x := range got {
				spoil(x)
			}
			if fmt.Sprint(again...) != text || !same(full(d), before) {
				t.Fatal(c.name, "returns memory that is not new,", n)
			}
			spoil(d)
			if fmt.Sprint(again...) != text {
				t.Fatal(c.name, "returns memory of its arguments,", n)
			}
			if third := fmt.Sprint(c.do(sample(), n)...); third != text {
				t.Fatal(c.name, "returns something else when it is called again,", n, third, text)
			}
		}
	}
}

func TestOddDetectors(t *testing.T) {
	for _, m := range odd() {
		for _, d := range []api.Detector{
			with(func(d *api.Detector) { d.Planes[0] = plane(m, m, m, m, m, m, m) }),
			with(func(d *api.Detector) { d.Field[0] = slab(m, m, m, m) }),
			with(func(d *api.Detector) { d.Cables[0] = cable(m, m, m, m, m, m, m, m, m) }),
			with(func(d *api.Detector) { d.Cables[0] = cable(1, 1, m, m, m, m, m, 0, m) }),
			with(func(d *api.Detector) { d.Cables[0] = cable(1, 1, 3, m, m, m, m, 0, 1) }),
		} {
			_, _, e := detector.Check(d)
			for _, c := range calls() {
				got := c.do(d, 1)
				if e != api.OK && slices.Contains([]string{"Stack", "Field", "Integral", "Bend", "Thickness", "Live", "Times", "Chips", "Print"}, c.name) {
					checkNothing(t, c.name, got...)
				}
			}
		}
	}
}

func TestEmptyListsAreNil(t *testing.T) {
	a := api.Detector{Name: "a", Planes: []api.Plane{plane(0, 1, 1, 1, 1, 1, 0)}}
	b := api.Detector{Name: "a", Planes: a.Planes, Field: []api.Slab{}, Cables: []api.Cable{}}
	for _, c := range calls() {
		for _, n := range []int{0, 1, 150} {
			if x, y := fmt.Sprint(c.do(a, n)...), fmt.Sprint(c.do(b, n)...); x != y {
				t.Error(c.name, x, y)
			}
		}
	}
}

func TestLargeDetectors(t *testing.T) {
	d := many(64, 64, 512)
	mustCheck(t, d)
	for _, c := range calls() {
		c.do(d, 1)
	}
	var l []api.Cable
	for i := range 200000 {
		l = append(l, cable(i, i, i, i, i, i, i, i, i+1))
	}
	checkFault(t, "a long list", api.Detector{Name: "a", Planes: d.Planes, Cables: l}, 0, 0, api.ErrLong)
}
