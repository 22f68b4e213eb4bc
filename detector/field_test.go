package detector_test

import (
	"math"
	"math/rand"
	"slices"
	"testing"

	"hodoscope/api"
	"hodoscope/detector"
)

// P3.6, P3.7, P3.15

// notFaces are numbers that are no face with a frame.
func notFaces() []int { return []int{-1, 6, 7, math.MinInt, math.MaxInt, 1 << 32} }

func TestStacks(t *testing.T) {
	for face, want := range [][]int{{2, 0, 6, 3}, nil, nil, nil, {5}, {4}} {
		if l := detector.Stack(sample(), face); !slices.Equal(l, want) {
			t.Error("Stack", face, l, want)
		}
	}
	for _, face := range notFaces() {
		checkNothing(t, face, detector.Stack(sample(), face), detector.Thickness(sample(), face, 0, 1<<20))
	}
	for _, d := range invalid() {
		checkNothing(t, d, detector.Stack(d, 0), detector.Thickness(d, 0, 0, 1<<20))
	}
}

func TestThickness(t *testing.T) {
	for _, x := range [][4]int{
		{0, 0, 1 << 20, 1301}, {0, 40, 41, 1000}, {0, 40, 40, 0}, {0, 41, 40, 0}, {0, 41, 100, 0}, {0, 41, 101, 1}, {0, 100, 102, 301}, {0, 101, 102, 300},
		{0, 100, 101, 1}, {0, 102, 65537, 0}, {0, 65536, math.MaxInt, 0}, {0, math.MinInt, math.MaxInt, 1301}, {0, math.MaxInt, math.MinInt, 0}, {0, -5, 41, 1000},
		{1, 0, 1 << 20, 0}, {4, 0, 1 << 20, 20}, {4, 100, 101, 20}, {4, 101, 200, 0}, {4, 0, 100, 0}, {5, 0, 2, 10}, {5, 1, 2, 10}, {5, 2, 3, 0},
	} {
		if n := detector.Thickness(sample(), x[0], x[1], x[2]); n != x[3] {
			t.Error("Thickness", x, n)
		}
	}
	d := many(64, 0, 0)
	for i := range d.Planes {
		d.Planes[i].Face, d.Planes[i].Depth, d.Planes[i].Thick = 3, 64-i, 1000
	}
	if n := detector.Thickness(d, 3, 1, 65); n != 64000 {
		t.Error("the greatest thickness", n)
	}
	if n := detector.Thickness(d, 3, 2, 64); n != 62000 {
		t.Error("less", n)
	}
}

func TestStacksOfRandomDetectors(t *testing.T) {
	r := rand.New(rand.NewSource(8))
	for _, d := range valids(r, 300) {
		for face := range 6 {
			from, to := between(r, -2, 40), between(r, -2, 40)
			var want []int
			total := 0
			for depth := range 100 {
				for i, p := range d.Planes {
					if p.Face == face && p.Depth == depth {
						want = append(want, i)
						if depth >= from && depth < to {
							total += p.Thick
						}
					}
				}
			}
			if l := detector.Stack(d, face); !slices.Equal(l, want) {
				t.Error("Stack", d, face, l, want)
			}
			if n := detector.Thickness(d, face, from, to); n != total {
				t.Error("Thickness", d, face, from, to, n, total)
			}
		}
	}
}

// checkFields compares with the words of the chapter.
func checkFields(t *testing.T, d api.Detector, face, depth int) {
	t.Helper()
	at := min(max(depth, 0), 65536)
	field, integral, bend := 0, 0, 0
	for _, s := range d.Field {
		if s.Face != face {
			continue
		}
		if s.From <= at && at < s.To {
			field += s.B
		}
		if reach := min(s.To, at) - s.From; reach > 0 {
			integral += s.B * reach
		}
		if s.From < at {
			far := at - min(s.To, at)
			bend += s.B * ((at-s.From)*(at-s.From) - far*far)
		}
	}
	if n := detector.Field(d, face, depth); n != field {
		t.Error("Field", d.Field, face, depth, n, field)
	}
	if n := detector.Integral(d, face, depth); n != integral {
		t.Error("Integral", d.Field, face, depth, n, integral)
	}
	if n := detector.Bend(d, face, depth); n != bend {
		t.Error("Bend", d.Field, face, depth, n, bend)
	}
}

func TestFields(t *testing.T) {
	depths := append(odd(), 5, 29, 30, 31, 49, 50, 51, 59, 60, 61, 99, 100, 101, 200, 65535, 65536, 65537)
	for face := range 6 {
		for _, depth := range depths {
			checkFields(t, sample(), face, depth)
		}
	}
	for _, depth := range depths {
		for _, face := range notFaces() {
			checkNothing(t, face, detector.Field(sample(), face, depth), detector.Integral(sample(), face, depth), detector.Bend(sample(), face, depth))
		}
	}
	for _, d := range invalid() {
		checkNothing(t, d, detector.Field(d, 0, 55), detector.Integral(d, 0, 55), detector.Bend(d, 0, 55))
	}
}

func TestFieldsOfWholeFaces(t *testing.T) {
	d := sample()
	d.Field = []api.Slab{slab(3, 0, 65536, 1024), slab(2, 0, 65536, -1024)}
	for _, depth := range append(odd(), 65535) {
		checkFields(t, d, 3, depth)
		checkFields(t, d, 2, depth)
		checkFields(t, d, 1, depth)
	}
	for face, sign := range map[int]int{3: 1, 2: -1} {
		for _, x := range [][4]int{{65536, 0, 1 << 26, 1 << 42}, {1 << 50, 0, 1 << 26, 1 << 42}, {65535, 1024, 1024 * 65535, 1024 * 65535 * 65535}, {0, 1024, 0, 0}, {-1 << 50, 1024, 0, 0}} {
			if n := detector.Field(d, face, x[0]); n != sign*x[1] {
				t.Error("Field", face, x, n)
			}
			if n := detector.Integral(d, face, x[0]); n != sign*x[2] {
				t.Error("Integral", face, x, n)
			}
			if n := detector.Bend(d, face, x[0]); n != sign*x[3] {
				t.Error("Bend", face, x, n)
			}
		}
	}
}

func TestFieldsOfRandomDetectors(t *testing.T) {
	r := rand.New(rand.NewSource(9))
	for _, d := range valids(r, 200) {
		for range 100 {
			checkFields(t, d, between(r, 0, 5), between(r, -5, 60))
		}
	}
}

func checkDifferences(t *testing.T, d api.Detector, face, depth int) {
	t.Helper()
	i, next := detector.Integral(d, face, depth), detector.Integral(d, face, depth+1)
	if f := detector.Field(d, face, depth); next-i != f {
		t.Error("Integral", d.Field, face, depth, i, next, f)
	}
	if b, c := detector.Bend(d, face, depth), detector.Bend(d, face, depth+1); c-b != i+next {
		t.Error("Bend", d.Field, face, depth, b, c, i, next)
	}
}

func TestDifferencesOfFields(t *testing.T) {
	d := api.Detector{Name: "d", Planes: []api.Plane{plane(0, 1, 1, 1, 1, 1, 0)}, Field: []api.Slab{slab(1, 60000, 65536, -1024), slab(1, 3, 17, 5), slab(0, 0, 65536, 1024), slab(1, 17, 18, -6), slab(1, 100, 50000, 999)}}
	mustCheck(t, d)
	for depth := range api.MaxDepth {
		checkDifferences(t, d, 1, depth)
	}
	for _, depth := range []int{0, 1, 2, 65534, 65535} {
		checkDifferences(t, d, 0, depth)
	}
	r := rand.New(rand.NewSource(10))
	for _, d := range valids(r, 50) {
		for face := range 6 {
			for depth := range 45 {
				checkDifferences(t, d, face, depth)
			}
		}
	}
}
