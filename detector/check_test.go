package detector_test

import (
	"math"
	"math/rand"
	"strings"
	"testing"

	"hodoscope/api"
	"hodoscope/detector"
)

// P3.1

func checkFault(t *testing.T, what any, d api.Detector, part, index int, e api.Errno) {
	t.Helper()
	if p, i, f := detector.Check(d); p != part || i != index || f != e {
		t.Errorf("Check, %v: %d, %d, error %d, want %d, %d, error %d", what, p, i, f, part, index, e)
	}
}

func TestCheckOfValidDetectors(t *testing.T) {
	checkFault(t, "the sample", sample(), 0, 0, api.OK)
	d := api.Detector{Name: "a", Planes: []api.Plane{plane(0, 1, 1, 1, 1, 1, 0)}}
	checkFault(t, "one plane", d, 0, 0, api.OK)
	d.Field, d.Cables = []api.Slab{}, []api.Cable{}
	checkFault(t, "empty lists", d, 0, 0, api.OK)
	d.Planes[0] = plane(6, 0, 1024, 1024, 4096, 4096, 0)
	checkFault(t, "only a calorimeter", d, 0, 0, api.OK)
}

func TestCheckOfNames(t *testing.T) {
	for _, name := range []string{"a", "z", "a-", "a0", "a9", "az-09", "z----", strings.Repeat("a", 32)} {
		checkFault(t, name, with(func(d *api.Detector) { d.Name = name }), 0, 0, api.OK)
	}
	for _, name := range []string{"", "0a", "9", "-a", "A", "aA", "a b", "a_", "a`", "a{", "`", "{", "a/", "a:", "a.", "a,", "ä", "a\n", "a\x00", "a\xff", strings.Repeat("a", 33), strings.Repeat("-", 32)} {
		checkFault(t, name, with(func(d *api.Detector) { d.Name = name }), 0, 0, api.ErrArg)
	}
	for c := range 256 {
		letter := 'a' <= c && c <= 'z'
		want := map[bool]api.Errno{true: api.OK, false: api.ErrArg}
		checkFault(t, c, with(func(d *api.Detector) { d.Name = string([]byte{byte(c)}) }), 0, 0, want[letter])
		inside := letter || '0' <= c && c <= '9' || c == '-'
		checkFault(t, c, with(func(d *api.Detector) { d.Name = "a" + string([]byte{byte(c)}) + "a" }), 0, 0, want[inside])
	}
}

// many returns a valid detector with so many planes, slabs and cables.
func many(planes, slabs, cables int) api.Detector {
	d := api.Detector{Name: "many"}
	for i := range planes {
		d.Planes = append(d.Planes, plane(i%6, 1+i/6, 512, 1, 1, 1, 0))
	}
	for i := range slabs {
		d.Field = append(d.Field, slab(i%6, i/6, i/6+1, i))
	}
	for i := range cables {
		d.Cables = append(d.Cables, cable(i/32%16, i%32, 0, i%512, 0, 1, 1, i/512, i/512+1))
	}
	return d
}

func TestCheckOfLengths(t *testing.T) {
	checkFault(t, "the greatest lengths", many(64, 64, 512), 0, 0, api.OK)
	checkFault(t, "65 planes", many(65, 0, 0), 0, 0, api.ErrLong)
	checkFault(t, "65 slabs", many(1, 65, 0), 0, 0, api.ErrLong)
	checkFault(t, "513 cables", many(1, 0, 513), 0, 0, api.ErrLong)
	checkFault(t, "no plane", many(0, 0, 0), 0, 0, api.ErrArg)
	checkFault(t, "no plane and 65 slabs", many(0, 65, 0), 0, 0, api.ErrArg)
	d := many(65, 65, 513)
	d.Name = ""
	checkFault(t, "no name and too much of all", d, 0, 0, api.ErrArg)
	d = many(65, 2, 2)
	d.Planes[0].Cols, d.Field[0].Face, d.Cables[0].Link = 0, -1, -1
	checkFault(t, "faults, and 65 planes", d, 0, 0, api.ErrLong)
	d = many(2, 2, 513)
	d.Planes[0].Cols, d.Field[0].Face, d.Cables[0].Link = 0, -1, -1
	checkFault(t, "faults, and 513 cables", d, 0, 0, api.ErrLong)
}

// outside returns numbers outside a range.
func outside(least, greatest int) []int {
	return []int{least - 1, greatest + 1, math.MinInt, math.MaxInt, -1 << 50, 1 << 50}
}

func TestCheckOfPlanes(t *testing.T) {
	for _, x := range []struct {
		name            string
		field           func(p *api.Plane) *int
		least, greatest int
	}{
		{"Face", func(p *api.Plane) *int { return &p.Face }, 0, 5},
		{"Depth", func(p *api.Plane) *int { return &p.Depth }, 1, 65536},
		{"Cols", func(p *api.Plane) *int { return &p.Cols }, 1, 1024},
		{"Rows", func(p *api.Plane) *int { return &p.Rows }, 1, 1024},
		{"HalfX", func(p *api.Plane) *int { return &p.HalfX }, 1, 4096},
		{"HalfY", func(p *api.Plane) *int { return &p.HalfY }, 1, 4096},
		{"Thick", func(p *api.Plane) *int { return &p.Thick }, 0, 1000},
	} {
		d := api.Detector{Name: "a", Planes: []api.Plane{plane(1, 7, 5, 5, 5, 5, 5), plane(2, 8, 5, 5, 5, 5, 5), plane(3, 8, 5, 5, 5, 5, 5)}}
		for _, n := range []int{x.least, x.greatest} {
			*x.field(&d.Planes[1]) = n
			checkFault(t, []any{x.name, n}, d, 0, 0, api.OK)
		}
		for _, n := range outside(x.least, x.greatest) {
			*x.field(&d.Planes[1]) = n
			checkFault(t, []any{x.name, n}, d, 1, 1, api.ErrRange)
		}
	}
}

func TestCheckOfCalorimeters(t *testing.T) {
	d := api.Detector{Name: "a", Planes: []api.Plane{plane(0, 1, 1, 1, 1, 1, 0), plane(6, 0, 5, 5, 5, 5, 0)}}
	checkFault(t, "a calorimeter", d, 0, 0, api.OK)
	for _, n := range outside(0, 0) {
		d.Planes[1] = plane(6, n, 5, 5, 5, 5, 0)
		checkFault(t, []any{"its depth", n}, d, 1, 1, api.ErrRange)
		d.Planes[1] = plane(6, 0, 5, 5, 5, 5, n)
		checkFault(t, []any{"how thick it is", n}, d, 1, 1, api.ErrRange)
	}
	for _, p := range []api.Plane{plane(6, 0, 0, 5, 5, 5, 0), plane(6, 0, 5, 1025, 5, 5, 0), plane(6, 0, 5, 5, 4097, 5, 0), plane(6, 0, 5, 5, 5, 0, 0), plane(7, 0, 5, 5, 5, 5, 0), plane(-1, 0, 5, 5, 5, 5, 0)} {
		d.Planes[1] = p
		checkFault(t, p, d, 1, 1, api.ErrRange)
	}
	d.Planes[1] = plane(6, 0, 5, 5, 5, 5, 0)
	d.Planes = append(d.Planes, plane(2, 9, 1, 1, 1, 1, 0), plane(6, 0, 7, 8, 9, 10, 0))
	checkFault(t, "a second calorimeter", d, 1, 3, api.ErrThere)
	d.Planes[3].Depth = 1
	checkFault(t, "a second calorimeter that is not valid", d, 1, 3, api.ErrRange)
}

func TestCheckOfPlanesAtTheSameDepth(t *testing.T) {
	a, b, c := plane(2, 9, 1, 1, 1, 1, 0), plane(3, 9, 1, 1, 1, 1, 0), plane(2, 8, 1, 1, 1, 1, 0)
	again, wrong := plane(2, 9, 4, 4, 4, 4, 4), plane(2, 9, 0, 1, 1, 1, 0)
	for _, x := range []struct {
		planes []api.Plane
		index  int
		e      api.Errno
	}{
		{[]api.Plane{a, b, c}, 0, api.OK},
		{[]api.Plane{a, again}, 1, api.ErrThere},
		{[]api.Plane{a, b, c, again, wrong}, 3, api.ErrThere},
		{[]api.Plane{a, b, wrong, again}, 2, api.ErrRange},
		{[]api.Plane{wrong, a, again}, 0, api.ErrRange},
	} {
		part := 0
		if x.e != api.OK {
			part = 1
		}
		checkFault(t, x.planes, api.Detector{Name: "a", Planes: x.planes}, part, x.index, x.e)
	}
}

func TestCheckOfSlabs(t *testing.T) {
	d := many(1, 3, 0)
	for _, s := range []api.Slab{slab(5, 0, 65536, 1024), slab(0, 65535, 65536, -1024), slab(0, 1, 2, 0), slab(4, 0, 1, 5)} {
		d.Field[1] = s
		checkFault(t, s, d, 0, 0, api.OK)
	}
	wrong := []api.Slab{slab(4, 5, 5, 1), slab(4, 6, 5, 1), slab(4, 0, 0, 1), slab(4, 65536, 65536, 1), slab(4, 65536, 65537, 1), slab(4, -1, 0, 1), slab(4, math.MaxInt, math.MinInt, 1)}
	for _, n := range outside(0, 5) {
		wrong = append(wrong, slab(n, 2, 3, 1))
	}
	for _, n := range outside(-1024, 1024) {
		wrong = append(wrong, slab(4, 2, 3, n))
	}
	for _, n := range []int{-1, math.MinInt} {
		wrong = append(wrong, slab(4, n, 3, 1))
	}
	for _, n := range []int{65537, 1 << 32, math.MaxInt} {
		wrong = append(wrong, slab(4, 2, n, 1))
	}
	wrong = append(wrong, slab(6, 0, 1, 1))
	for _, s := range wrong {
		d.Field[1] = s
		checkFault(t, s, d, 2, 1, api.ErrRange)
	}
}

func TestCheckOfSlabsThatMeet(t *testing.T) {
	d := many(1, 0, 0)
	for _, x := range []struct {
		slab api.Slab
		e    api.Errno
	}{
		{slab(2, 0, 10, 1), api.OK}, {slab(2, 20, 30, 1), api.OK}, {slab(3, 10, 20, 1), api.OK}, {slab(1, 0, 65536, 1), api.OK},
		{slab(2, 0, 11, 1), api.ErrThere}, {slab(2, 19, 30, 1), api.ErrThere}, {slab(2, 10, 20, 5), api.ErrThere},
		{slab(2, 14, 15, 1), api.ErrThere}, {slab(2, 0, 65536, 1), api.ErrThere}, {slab(2, 10, 11, 1), api.ErrThere},
		{slab(2, 19, 19, 1), api.ErrRange},
	} {
		d.Field = []api.Slab{slab(2, 10, 20, 1), slab(5, 10, 20, 1), x.slab}
		if x.e == api.OK {
			checkFault(t, x.slab, d, 0, 0, api.OK)
		} else {
			checkFault(t, x.slab, d, 2, 2, x.e)
		}
	}
	d.Field = []api.Slab{slab(2, 10, 20, 1), slab(2, 30, 40, 1), slab(2, 5, 6, 1), slab(2, 39, 50, 1), slab(7, 0, 1, 1)}
	checkFault(t, "the fourth with the second", d, 2, 3, api.ErrThere)
}

func TestCheckOfParts(t *testing.T) {
	d := sample()
	d.Cables[1].Slot = 32
	checkFault(t, "a cable", d, 3, 1, api.ErrRange)
	d.Field[2].From = -1
	checkFault(t, "a slab and a cable", d, 2, 2, api.ErrRange)
	d.Planes[6].Depth = 100
	checkFault(t, "a plane, a slab and a cable", d, 1, 6, api.ErrThere)
	d.Planes[6].Rows = -1
	checkFault(t, "a plane with two faults", d, 1, 6, api.ErrRange)
	d.Name = "-"
	checkFault(t, "all", d, 0, 0, api.ErrArg)
}

func TestCheckOfRandomDetectors(t *testing.T) {
	r := rand.New(rand.NewSource(1))
	seen := map[int]int{}
	for range 20000 {
		d := random(r)
		part, index, e := plainCheck(d)
		seen[part]++
		checkFault(t, d, d, part, index, e)
	}
	for part := range 4 {
		if seen[part] < 100 {
			t.Error("of part", part, "only", seen[part])
		}
	}
}
