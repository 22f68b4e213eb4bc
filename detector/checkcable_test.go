package detector_test

import (
	"math"
	"testing"

	"hodoscope/api"
)

// P3.1, of cables

// wired returns a detector with planes of 1024 by 1024 and 6 by 4 cells, and these cables.
func wired(cables ...api.Cable) api.Detector {
	return api.Detector{Name: "wired", Planes: []api.Plane{plane(0, 1, 1024, 1024, 1, 1, 0), plane(6, 0, 6, 4, 1, 1, 0)}, Cables: cables}
}

func TestCheckOfCables(t *testing.T) {
	other := cable(7, 7, 0, 500, 500, 1, 1, 0, 1)
	for _, c := range []api.Cable{
		cable(0, 0, 0, 0, 0, 1, 1, 0, 1), cable(15, 31, 1, 5, 3, 1, 1, 0, 1<<40), cable(1, 1, 1, 0, 0, 6, 4, 1<<40-1, 1<<40),
		cable(1, 1, 0, 0, 0, 64, 64, 0, 1), cable(1, 1, 0, 0, 0, 1024, 4, 0, 1), cable(1, 1, 0, 1020, 0, 4, 1024, 0, 1),
		cable(1, 1, 0, 1023, 1023, 1, 1, 0, 1), cable(1, 1, 0, 960, 960, 64, 64, 0, 1), cable(1, 1, 1, 2, 1, 4, 3, 5, 6),
	} {
		checkFault(t, c, wired(other, c), 0, 0, api.OK)
		checkFault(t, c, wired(c, other), 0, 0, api.OK)
	}
	for _, c := range []api.Cable{
		cable(1, 1, 1, 0, 0, 7, 4, 0, 1), cable(1, 1, 1, 0, 0, 6, 5, 0, 1), cable(1, 1, 1, 1, 0, 6, 4, 0, 1), cable(1, 1, 1, 0, 1, 6, 4, 0, 1),
		cable(1, 1, 1, 6, 0, 1, 1, 0, 1), cable(1, 1, 1, 0, 4, 1, 1, 0, 1), cable(1, 1, 1, 5, 0, 2, 1, 0, 1), cable(1, 1, 1, 0, 3, 1, 2, 0, 1),
		cable(1, 1, 0, 0, 0, 17, 241, 0, 1), cable(1, 1, 0, 0, 0, 1024, 1024, 0, 1), cable(1, 1, 0, 0, 0, 65, 64, 0, 1), cable(1, 1, 0, 0, 0, 1024, 5, 0, 1),
		cable(1, 1, 0, 0, 0, 1, 1, 5, 5), cable(1, 1, 0, 0, 0, 1, 1, 6, 5), cable(1, 1, 0, 0, 0, 1, 1, 0, 0), cable(1, 1, 0, 0, 0, 1, 1, 1<<40, 1<<40),
		cable(1, 1, 0, 0, 0, 1, 1, 1<<40, 1<<40+1), cable(1, 1, 0, 0, 0, 1, 1, -1, 0),
		cable(1, 1, 0, 1, 0, math.MaxInt, 1, 0, 1), cable(1, 1, 0, math.MaxInt, 0, math.MaxInt, 1, 0, 1), cable(1, 1, 0, math.MaxInt, 0, 1, 1, 0, 1),
		cable(1, 1, 0, 0, math.MinInt, 1, math.MinInt, 0, 1), cable(1, 1, 0, 0, math.MaxInt, 1, math.MaxInt, 0, 1), cable(1, 1, 0, 0, 0, 1<<32, 1<<32, 0, 1),
		cable(1, 1, 0, math.MinInt, 0, math.MinInt+1, 1, 0, 1), cable(1, 1, 0, 5, 0, math.MinInt, 1, 0, 1),
	} {
		checkFault(t, c, wired(other, c), 3, 1, api.ErrRange)
		checkFault(t, c, wired(c, other), 3, 0, api.ErrRange)
	}
}

func TestCheckOfTheNumbersOfCables(t *testing.T) {
	for _, x := range []struct {
		name            string
		field           func(c *api.Cable) *int
		least, greatest int
		e               api.Errno
	}{
		{"Link", func(c *api.Cable) *int { return &c.Link }, 0, 15, api.ErrRange},
		{"Slot", func(c *api.Cable) *int { return &c.Slot }, 0, 31, api.ErrRange},
		{"Plane", func(c *api.Cable) *int { return &c.Plane }, 0, 1, api.ErrNone},
		{"Col", func(c *api.Cable) *int { return &c.Col }, 0, 4, api.ErrRange},
		{"Row", func(c *api.Cable) *int { return &c.Row }, 0, 1, api.ErrRange},
		{"Wide", func(c *api.Cable) *int { return &c.Wide }, 1, 5, api.ErrRange},
		{"High", func(c *api.Cable) *int { return &c.High }, 1, 3, api.ErrRange},
		{"From", func(c *api.Cable) *int { return &c.From }, 0, 19, api.ErrRange},
		{"To", func(c *api.Cable) *int { return &c.To }, 11, 1 << 40, api.ErrRange},
	} {
		for n := x.least; n <= x.greatest; n = min(n*2+1, max(x.greatest, n+1)) {
			c := cable(3, 4, 1, 1, 1, 2, 3, 10, 20)
			*x.field(&c) = n
			checkFault(t, []any{x.name, n}, wired(cable(5, 5, 0, 90, 90, 1, 1, 0, 1), c), 0, 0, api.OK)
		}
		for _, n := range outside(x.least, x.greatest) {
			c := cable(3, 4, 1, 1, 1, 2, 3, 10, 20)
			*x.field(&c) = n
			checkFault(t, []any{x.name, n}, wired(cable(5, 5, 0, 90, 90, 1, 1, 0, 1), c), 3, 1, x.e)
		}
	}
}

func TestCheckOfTheOrderOfFaultsOfCables(t *testing.T) {
	good := cable(3, 4, 1, 1, 1, 2, 3, 10, 20)
	for _, x := range []struct {
		c api.Cable
		e api.Errno
	}{
		{cable(16, 4, 2, 1, 1, 2, 3, 10, 20), api.ErrRange},
		{cable(3, -1, 2, 1, 1, 2, 3, 10, 20), api.ErrRange},
		{cable(3, 4, 2, 1, 1, 2, 3, -1, 20), api.ErrRange},
		{cable(3, 4, 2, 1, 1, 2, 3, 20, 20), api.ErrRange},
		{cable(3, 4, 2, 1, 1, 2, 3, 10, 1<<40+1), api.ErrRange},
		{cable(3, 4, 2, 1, 1, 0, 3, 10, 20), api.ErrNone},
		{cable(3, 4, -1, -1, 1, 2, 3, 10, 20), api.ErrNone},
		{cable(3, 4, 1, 1, 1, 2, 4, 10, 20), api.ErrRange},
		{good, api.ErrThere},
	} {
		checkFault(t, x.c, wired(good, x.c), 3, 1, x.e)
		checkFault(t, x.c, wired(good, x.c, cable(99, 0, 0, 0, 0, 0, 0, 0, 0), good), 3, 1, x.e)
	}
	checkFault(t, "the third with the first", wired(good, cable(5, 5, 0, 0, 0, 1, 1, 0, 99), cable(3, 4, 0, 9, 9, 1, 1, 19, 20)), 3, 2, api.ErrThere)
	checkFault(t, "the third with the second", wired(cable(5, 5, 0, 0, 0, 1, 1, 0, 99), good, cable(3, 5, 1, 2, 3, 1, 1, 19, 20)), 3, 2, api.ErrThere)
}

func TestCheckOfCablesThatCollide(t *testing.T) {
	first := cable(3, 4, 0, 10, 20, 5, 6, 100, 200)
	for _, x := range []struct {
		what    string
		c       api.Cable
		collide bool
	}{
		{"nothing in common", cable(5, 6, 1, 0, 0, 1, 1, 300, 400), false},
		{"only the time", cable(5, 6, 1, 0, 0, 1, 1, 100, 200), false},
		{"only the time, and the plane", cable(5, 6, 0, 0, 0, 1, 1, 100, 200), false},
		{"only the Link", cable(3, 5, 1, 0, 0, 1, 1, 100, 200), false},
		{"only the Slot", cable(2, 4, 1, 0, 0, 1, 1, 100, 200), false},
		{"Link and Slot the other way round", cable(4, 3, 1, 0, 0, 1, 1, 100, 200), false},
		{"Link and Slot, before", cable(3, 4, 1, 0, 0, 1, 1, 0, 100), false},
		{"Link and Slot, after", cable(3, 4, 1, 0, 0, 1, 1, 200, 300), false},
		{"cells, before", cable(5, 6, 0, 10, 20, 5, 6, 99, 100), false},
		{"cells, after", cable(5, 6, 0, 10, 20, 5, 6, 200, 201), false},
		{"the chip and cells, after", cable(3, 4, 0, 10, 20, 5, 6, 200, 201), false},
		{"the cells of another plane", cable(5, 6, 1, 1, 1, 5, 3, 100, 200), false},
		{"to the left", cable(5, 6, 0, 5, 20, 5, 6, 100, 200), false},
		{"to the right", cable(5, 6, 0, 15, 20, 5, 6, 100, 200), false},
		{"below", cable(5, 6, 0, 10, 14, 5, 6, 100, 200), false},
		{"above", cable(5, 6, 0, 10, 26, 5, 6, 100, 200), false},
		{"only columns", cable(5, 6, 0, 12, 500, 5, 6, 100, 200), false},
		{"only rows", cable(5, 6, 0, 500, 22, 5, 6, 100, 200), false},
		{"Link and Slot", cable(3, 4, 1, 0, 0, 1, 1, 100, 200), true},
		{"Link and Slot, at the first time", cable(3, 4, 1, 0, 0, 1, 1, 0, 101), true},
		{"Link and Slot, at the last time", cable(3, 4, 1, 0, 0, 1, 1, 199, 300), true},
		{"Link and Slot, within the time", cable(3, 4, 1, 0, 0, 1, 1, 150, 151), true},
		{"Link and Slot, for ever", cable(3, 4, 1, 0, 0, 1, 1, 0, 1<<40), true},
		{"all cells", cable(5, 6, 0, 10, 20, 5, 6, 100, 200), true},
		{"cells, at the first time", cable(5, 6, 0, 10, 20, 5, 6, 0, 101), true},
		{"cells, at the last time", cable(5, 6, 0, 10, 20, 5, 6, 199, 300), true},
		{"the first cell", cable(5, 6, 0, 6, 15, 5, 6, 100, 200), true},
		{"the last cell", cable(5, 6, 0, 14, 25, 5, 6, 100, 200), true},
		{"the last column and the first row", cable(5, 6, 0, 14, 15, 5, 6, 100, 200), true},
		{"one cell inside", cable(5, 6, 0, 12, 22, 1, 1, 100, 200), true},
		{"all around", cable(5, 6, 0, 0, 0, 40, 40, 0, 1000), true},
		{"a cross", cable(5, 6, 0, 0, 22, 40, 1, 0, 1000), true},
	} {
		e, part, index := api.OK, 0, 0
		if x.collide {
			e, part, index = api.ErrThere, 3, 1
		}
		checkFault(t, x.what, wired(first, x.c), part, index, e)
		checkFault(t, x.what+", the other way round", wired(x.c, first), part, index, e)
	}
}
