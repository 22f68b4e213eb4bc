package pattern_test

import (
	"fmt"
	"math"
	"math/rand"
	"reflect"
	"slices"
	"testing"

	"hodoscope/api"
	"hodoscope/detector"
	"hodoscope/pattern"
)

func cell(plane, col, row int) api.Cell { return api.Cell{Plane: plane, Col: col, Row: row} }

func sample(plane, col, row, adc int) api.Sample {
	return api.Sample{Cell: cell(plane, col, row), Adc: adc}
}

// samples makes samples of a plane, each of a column, a row and an Adc.
func samples(plane int, numbers ...int) []api.Sample {
	var l []api.Sample
	for i := 0; i < len(numbers); i += 3 {
		l = append(l, sample(plane, numbers[i], numbers[i+1], numbers[i+2]))
	}
	return l
}

// cluster makes the cluster that has all of some samples.
func cluster(l ...api.Sample) api.Cluster {
	c := api.Cluster{Plane: l[0].Cell.Plane, Samples: l}
	for _, s := range l {
		c.Charge += s.Adc
	}
	return c
}

// at makes a point without an extent.
func at(plane, x, y int) api.Point { return api.Point{Plane: plane, X: x, Y: y, VX: 1, VY: 1} }

// line makes points of planes 0, 1 and so on, with some x and the y 0.
func line(xs ...int) []api.Point {
	var l []api.Point
	for i, x := range xs {
		l = append(l, at(i, x, 0))
	}
	return l
}

// segments makes a list of pairs of indices.
func segments(numbers ...int) []api.Segment {
	var l []api.Segment
	for i := 0; i < len(numbers); i += 2 {
		l = append(l, api.Segment{A: numbers[i], B: numbers[i+1]})
	}
	return l
}

func candidate(face, weight int, points ...int) api.Candidate {
	return api.Candidate{Face: face, Points: points, Weight: weight}
}

func entries(numbers ...int) []api.Entry {
	var l []api.Entry
	for i := 0; i < len(numbers); i += 2 {
		l = append(l, api.Entry{Key: numbers[i], Value: numbers[i+1]})
	}
	return l
}

// snapshot makes a snapshot with one list of entries.
func snapshot(kind int, numbers ...int) api.Snapshot {
	s := api.Snapshot{Tag: "test"}
	s.Kinds[kind] = entries(numbers...)
	return s
}

// deep is a detector with n planes of the face 0, at the depths 10, 20 and so on.
func deep(n int) api.Detector {
	d := api.Detector{Name: "a"}
	for i := range n {
		d.Planes = append(d.Planes, api.Plane{Depth: 10 * (i + 1), Cols: 8, Rows: 8, HalfX: 5, HalfY: 5})
	}
	return d
}

// search is that of the chapter's examples.
func search() api.Search {
	return api.Search{Skip: 0, Slope: 2048, Kink: 1024, Least: 3, Reward: 1000, Share: 0}
}

// wide is a search that lets all segments of neighbouring planes pass.
func wide() api.Search {
	return api.Search{Skip: 0, Slope: api.MaxAngle, Kink: api.MaxAngle, Least: 2, Reward: 1000, Share: 0}
}

// mixed has planes of several faces that do not have the order of their depths, a calorimeter between them, a field and
// cables. The Stack of the face 0 is 5, 3, 0, that of the face 4 is 4, 1.
func mixed() api.Detector {
	return api.Detector{
		Name: "mixed",
		Planes: []api.Plane{
			{Face: 0, Depth: 300, Cols: 5, Rows: 4, HalfX: 9, HalfY: 2},
			{Face: 4, Depth: 40, Cols: 6, Rows: 6, HalfX: 3, HalfY: 4},
			{Face: api.Calorimeter, Cols: 4, Rows: 4, HalfX: 7, HalfY: 7},
			{Face: 0, Depth: 250, Cols: 4, Rows: 5, HalfX: 8, HalfY: 3},
			{Face: 4, Depth: 20, Cols: 6, Rows: 6, HalfX: 3, HalfY: 4},
			{Face: 0, Depth: 100, Cols: 4, Rows: 4, HalfX: 7, HalfY: 5, Thick: 3},
		},
		Field:  []api.Slab{{Face: 0, From: 10, To: 20, B: 3}},
		Cables: []api.Cable{{Link: 1, Slot: 1, Plane: 0, Wide: 2, High: 2, From: 5, To: 9}},
	}
}

// badDetectors are not valid, each with a fault in another part.
func badDetectors() []api.Detector {
	l := []api.Detector{{}}
	for _, change := range []func(d *api.Detector){
		func(d *api.Detector) { d.Name = "Mixed" },
		func(d *api.Detector) { d.Planes = append(d.Planes, make([]api.Plane, 59)...) },
		func(d *api.Detector) { d.Planes[1].HalfX = 0 },
		func(d *api.Detector) { d.Planes[3].Depth = 300 },
		func(d *api.Detector) { d.Field[0].To = 10 },
		func(d *api.Detector) { d.Cables[0].Plane = 6 },
		func(d *api.Detector) { d.Cables = append(d.Cables, d.Cables[0]) },
	} {
		d := mixed()
		change(&d)
		l = append(l, d)
	}
	return l
}

// badSearches are not valid, each with one number beyond a bound.
func badSearches() []api.Search {
	var l []api.Search
	for _, change := range []func(q *api.Search, bad func(least, greatest int) int){
		func(q *api.Search, bad func(int, int) int) { q.Skip = bad(0, api.MaxSkip) },
		func(q *api.Search, bad func(int, int) int) { q.Slope = bad(0, api.MaxAngle) },
		func(q *api.Search, bad func(int, int) int) { q.Kink = bad(0, api.MaxAngle) },
		func(q *api.Search, bad func(int, int) int) { q.Least = bad(2, api.MaxPlanes) },
		func(q *api.Search, bad func(int, int) int) { q.Reward = bad(1, api.MaxReward) },
		func(q *api.Search, bad func(int, int) int) { q.Share = bad(0, api.MaxPlanes) },
	} {
		for i := range outside(0, 0) {
			q := search()
			change(&q, func(least, greatest int) int { return outside(least, greatest)[i] })
			l = append(l, q)
		}
	}
	return l
}

// badPoints are not valid for the detector mixed.
func badPoints() [][]api.Point {
	long := slices.Repeat([]api.Point{at(0, 0, 0)}, api.MaxPoints+1)
	l := [][]api.Point{long, {at(2, 0, 0)}, {at(0, 0, 0), at(2, 0, 0), at(1, 0, 0)}}
	add := func(p api.Point) { l = append(l, []api.Point{p}, []api.Point{at(0, 0, 0), p}) }
	for _, n := range outside(0, 5) {
		add(at(n, 0, 0))
	}
	for _, n := range outside(-api.MaxPlace, api.MaxPlace) {
		add(at(0, n, 0))
		add(at(0, 0, n))
	}
	for _, n := range outside(1, api.MaxVariance) {
		add(api.Point{VX: n, VY: 1})
		add(api.Point{VX: 1, VY: n})
	}
	return l
}

// outside returns numbers that are not from least to greatest.
func outside(least, greatest int) []int {
	return []int{least - 1, greatest + 1, math.MinInt, math.MaxInt, -1 << 40, 1 << 40}
}

// odd returns numbers at and beyond the ends of the ranges.
func odd() []int {
	l := []int{math.MinInt, math.MinInt + 1, math.MaxInt - 1, math.MaxInt, -1, 0, 1, 2, 3, 4, 5, 6, 63, 64, 65}
	for _, n := range []int{api.MaxSide, api.MaxAdc, api.MaxAngle, api.MaxVariance, api.MaxPlace, api.MaxWeight} {
		l = append(l, -n-1, -n, n-1, n, n+1)
	}
	return l
}

func sameCluster(a, b api.Cluster) bool {
	return a.Plane == b.Plane && a.Charge == b.Charge && slices.Equal(a.Samples, b.Samples)
}

func sameCandidate(a, b api.Candidate) bool {
	return a.Face == b.Face && a.Weight == b.Weight && slices.Equal(a.Points, b.Points)
}

// checkSame checks values that can be compared with ==.
func checkSame(t *testing.T, what, got, want any) {
	t.Helper()
	if got != want {
		t.Errorf("%v: %v, want %v", what, got, want)
	}
}

// checkList checks what a call returns: a list, without an error.
func checkList[T comparable](t *testing.T, what any, got []T, e api.Errno, want ...T) {
	t.Helper()
	if e != api.OK || !slices.Equal(got, want) {
		t.Errorf("%v: %v, error %d, want %v", what, got, e, want)
	}
}

func checkClusters(t *testing.T, d api.Detector, l []api.Sample, want ...api.Cluster) {
	t.Helper()
	got, e := pattern.Clusters(d, l)
	if e != api.OK || !slices.EqualFunc(got, want, sameCluster) {
		t.Errorf("Clusters(%v): %v, error %d, want %v", l, got, e, want)
	}
}

// checkPoint checks the point of one cluster.
func checkPoint(t *testing.T, d api.Detector, s api.Snapshot, c api.Cluster, want api.Point) {
	t.Helper()
	got, e := pattern.Points(d, s, []api.Cluster{c})
	checkList(t, "Points", got, e, want)
}

func checkCandidates(t *testing.T, what any, got []api.Candidate, e api.Errno, want ...api.Candidate) {
	t.Helper()
	if e != api.OK || !slices.EqualFunc(got, want, sameCandidate) {
		t.Errorf("%v: %v, error %d, want %v", what, got, e, want)
	}
}

// checkFails checks the error, which is the last of the results, and that the others are zero values; lists may be empty.
func checkFails(t *testing.T, what any, want api.Errno, results ...any) {
	t.Helper()
	last := len(results) - 1
	if results[last] != want {
		t.Errorf("%v: error %v, want %d", what, results[last], want)
	}
	checkNothing(t, what, results[:last]...)
}

// checkNothing checks that all results are zero values; lists may be empty.
func checkNothing(t *testing.T, what any, results ...any) {
	t.Helper()
	for _, r := range results {
		v := reflect.ValueOf(r)
		if v.Kind() == reflect.Slice && v.Len() > 0 || v.Kind() != reflect.Slice && !v.IsZero() {
			t.Errorf("%v: there is no value, but %v", what, r)
		}
	}
}

// results makes a list of what a call returns.
func results(l ...any) []any { return l }

// faceCall is a function of a face, with the arguments that all of these have in common.
type faceCall struct {
	name string
	do   func(d api.Detector, q api.Search, l []api.Point, face int) []any
}

// faceCalls are the functions whose errors are those of Segments.
func faceCalls() []faceCall {
	return []faceCall{
		{"Segments", func(d api.Detector, q api.Search, l []api.Point, face int) []any {
			return results(pattern.Segments(d, q, l, face))
		}},
		{"Evolve", func(d api.Detector, q api.Search, l []api.Point, face int) []any {
			return results(pattern.Evolve(d, q, l, face, 3))
		}},
		{"Lengths", func(d api.Detector, q api.Search, l []api.Point, face int) []any {
			return results(pattern.Lengths(d, q, l, face))
		}},
		{"Candidates", func(d api.Detector, q api.Search, l []api.Point, face int) []any {
			return results(pattern.Candidates(d, q, l, face))
		}},
		{"Follow", func(d api.Detector, q api.Search, l []api.Point, face int) []any {
			return results(pattern.Follow(d, q, l, face))
		}},
	}
}

func between(r *rand.Rand, least, greatest int) int { return least + r.Intn(greatest-least+1) }

// chance is true in one of n cases.
func chance(r *rand.Rand, n int) bool { return r.Intn(n) == 0 }

// randomDetector returns a valid detector with small planes of few faces, in any order.
func randomDetector(r *rand.Rand) api.Detector {
	d := api.Detector{Name: "random"}
	for range between(r, 1, 9) {
		d.Planes = append(d.Planes, api.Plane{Face: between(r, 0, 2), Depth: between(r, 1, 30), Cols: between(r, 1, 6), Rows: between(r, 1, 6), HalfX: between(r, 1, 9), HalfY: between(r, 1, 9)})
	}
	if chance(r, 2) {
		d.Planes = append(d.Planes, api.Plane{Face: api.Calorimeter, Cols: 5, Rows: 5, HalfX: 2, HalfY: 2})
	}
	r.Shuffle(len(d.Planes), func(i, j int) { d.Planes[i], d.Planes[j] = d.Planes[j], d.Planes[i] })
	for {
		_, i, e := detector.Check(d)
		if e == api.OK {
			return d
		}
		d.Planes = slices.Delete(d.Planes, i, i+1)
	}
}

// randomSamples returns valid samples of a detector, in about one of n cells.
func randomSamples(r *rand.Rand, d api.Detector, n int) []api.Sample {
	var l []api.Sample
	for i, p := range d.Planes {
		for col := range p.Cols {
			for row := range p.Rows {
				if chance(r, n) {
					l = append(l, sample(i, col, row, between(r, 1, 20)))
				}
			}
		}
	}
	return l
}

// randomPoints returns at most n valid points of a detector with small coordinates.
func randomPoints(r *rand.Rand, d api.Detector, n int) []api.Point {
	var l []api.Point
	for range between(r, 0, n) {
		plane := between(r, 0, len(d.Planes)-1)
		if d.Planes[plane].Face != api.Calorimeter {
			l = append(l, at(plane, between(r, -9, 9), between(r, -9, 9)))
		}
	}
	return l
}

func randomSearch(r *rand.Rand) api.Search {
	return api.Search{
		Skip: between(r, 0, 3), Slope: between(r, 200, 6000), Kink: between(r, 100, 4000),
		Least: between(r, 2, 4), Reward: between(r, 1, 3000), Share: between(r, 0, 2),
	}
}

// describe is what the arguments of a call of a random test are.
func describe(l ...any) string { return fmt.Sprintf("%+v", l) }
