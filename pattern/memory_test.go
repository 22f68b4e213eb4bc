package pattern_test

import (
	"fmt"
	"slices"
	"testing"

	"hodoscope/api"
	"hodoscope/pattern"
)

// R3, R4 and P0.1: what holds for all functions.

// roomy returns a copy of a list with memory beyond its end, which has x.
func roomy[T any](l []T, x T) []T { return append(slices.Clone(l), x, x)[:len(l)] }

func roomyDetector() api.Detector {
	d := mixed()
	d.Planes = roomy(d.Planes, api.Plane{Cols: -77})
	d.Field = roomy(d.Field, api.Slab{B: -77})
	d.Cables = roomy(d.Cables, api.Cable{Link: -77})
	return d
}

func roomySnapshot() api.Snapshot {
	s := snapshot(api.CoDead, key(0, 3, 2), 1)
	s.Kinds[api.CoShiftX] = entries(0, 1, 5, -1)
	s.Kinds[api.CoShiftY] = entries(3, 2)
	for kind, l := range s.Kinds {
		s.Kinds[kind] = roomy(l, api.Entry{Key: -77})
	}
	return s
}

func roomySamples() []api.Sample {
	l := slices.Concat(samples(0, 2, 1, 5, 2, 2, 6, 3, 2, 7), samples(1, 3, 3, 4), samples(3, 1, 2, 4, 2, 2, 4, 2, 4, 9), samples(4, 3, 3, 4), samples(5, 1, 2, 5, 2, 2, 3))
	return roomy(l, sample(-77, 0, 0, 0))
}

func roomyClusters() []api.Cluster {
	l, _ := pattern.Clusters(mixed(), roomySamples())
	for i, c := range l {
		l[i].Samples = roomy(c.Samples, sample(-77, 0, 0, 0))
	}
	return roomy(l, api.Cluster{Plane: -77})
}

func roomyPoints() []api.Point {
	l, _ := pattern.Points(mixed(), roomySnapshot(), roomyClusters())
	return roomy(l, at(-77, 0, 0))
}

func roomyCandidates() []api.Candidate {
	l := []api.Candidate{candidate(0, 5, 1, 2), candidate(1, 4, 3, 4), candidate(0, 6, 2, 3), candidate(0, 7, 7, 7), candidate(0, 7, 9)}
	for i, c := range l {
		l[i].Points = roomy(c.Points, -77)
	}
	return roomy(l, candidate(-77, 0))
}

// spoil overwrites the memory of results or arguments, also that beyond their ends.
func spoil(l ...any) {
	for _, x := range l {
		switch x := x.(type) {
		case []int:
			fill(x, -79)
		case [][]int:
			for _, y := range x {
				spoil(y)
			}
			fill(x, []int{-79})
		case []api.Sample:
			fill(x, sample(-79, -79, -79, -79))
		case []api.Cluster:
			for _, c := range x {
				spoil(c.Samples)
			}
			fill(x, api.Cluster{Plane: -79})
		case []api.Point:
			fill(x, at(-79, -79, -79))
		case []api.Segment:
			fill(x, api.Segment{A: -79, B: -79})
		case []api.Candidate:
			for _, c := range x {
				spoil(c.Points)
			}
			fill(x, candidate(-79, -79))
		case api.Snapshot:
			for _, entries := range x.Kinds {
				fill(entries, api.Entry{Key: -79})
			}
		case api.Detector:
			fill(x.Planes, api.Plane{Cols: -79})
			fill(x.Field, api.Slab{B: -79})
			fill(x.Cables, api.Cable{Link: -79})
		}
	}
}

func fill[T any](l []T, x T) {
	for i := range l[:cap(l)] {
		l[:cap(l)][i] = x
	}
}

func whole[T any](l []T) string { return fmt.Sprintf("%+v %d;", l[:cap(l)], len(l)) }

// full is what lists have, also beyond their ends.
func full(l ...any) string {
	s := ""
	for _, x := range l {
		switch x := x.(type) {
		case []int:
			s += whole(x)
		case []api.Sample:
			s += whole(x)
		case []api.Cluster:
			s += whole(x)
			for _, c := range x {
				s += whole(c.Samples)
			}
		case []api.Point:
			s += whole(x)
		case []api.Candidate:
			s += whole(x)
			for _, c := range x {
				s += whole(c.Points)
			}
		case api.Snapshot:
			for _, entries := range x.Kinds {
				s += whole(entries)
			}
		case api.Detector:
			s += whole(x.Planes) + whole(x.Field) + whole(x.Cables)
		}
	}
	return s
}

// call is a call of a function, with the arguments that have memory.
type call struct {
	name      string
	arguments []any
	do        func() []any
}

func calls() []call {
	d, s, l, clusters, points, candidates := roomyDetector(), roomySnapshot(), roomySamples(), roomyClusters(), roomyPoints(), roomyCandidates()
	q := search()
	q.Slope, q.Kink = 4096, 4096
	a, b := candidates[0], candidates[2]
	list := []call{
		{"Alive", []any{s, l}, func() []any { return results(pattern.Alive(s, l)) }},
		{"Clusters", []any{d, l}, func() []any { return results(pattern.Clusters(d, l)) }},
		{"Points", []any{d, s, clusters}, func() []any { return results(pattern.Points(d, s, clusters)) }},
		{"CheckPoints", []any{d, points}, func() []any { return results(pattern.CheckPoints(d, points)) }},
		{"Bends", []any{d}, func() []any { return results(pattern.Bends(d, at(5, 0, 0), at(3, 9, 0), at(0, 0, 9))) }},
		{"Inside", []any{d, points}, func() []any {
			return results(pattern.Inside(d, q, points, api.Segment{A: 5, B: 2}, api.Segment{A: 2, B: 0}))
		}},
		{"Collide", []any{a.Points, b.Points}, func() []any { return results(pattern.Collide(a, b, 0)) }},
		{"Knots", []any{candidates}, func() []any { return results(pattern.Knots(candidates, 0)) }},
		{"Choose", []any{candidates}, func() []any { return results(pattern.Choose(candidates, 0)) }},
		{"Find", []any{d, s, l}, func() []any { return results(pattern.Find(d, s, q, l)) }},
	}
	for _, c := range faceCalls() {
		list = append(list, call{c.name, []any{d, points}, func() []any { return c.do(d, q, points, 0) }})
	}
	return list
}

func TestArgumentsAreOnlyReadAndResultsAreNew(t *testing.T) {
	for i := range calls() {
		c := calls()[i]
		before := full(c.arguments...)
		got := c.do()
		text := fmt.Sprint(got...)
		if last := got[len(got)-1]; last != any(api.OK) && last != any(true) && len(got) > 1 || text == "[]" {
			t.Errorf("%s: %v", c.name, text)
		}
		again := c.do()
		checkSame(t, c.name+": the arguments", full(c.arguments...), before)
		spoil(got...)
		checkSame(t, c.name+": an earlier call", fmt.Sprint(again...), text)
		checkSame(t, c.name+": the arguments", full(c.arguments...), before)
		checkSame(t, c.name+": a later call", fmt.Sprint(c.do()...), text)
		spoil(c.arguments...)
		checkSame(t, c.name+": without its arguments", fmt.Sprint(again...), text)
	}
}

// Where nothing is left out, Alive returns a copy.
func TestAliveReturnsACopy(t *testing.T) {
	l := roomySamples()
	text := full(l)
	got := pattern.Alive(api.Snapshot{}, l)
	checkList(t, "Alive", got, api.OK, l...)
	_ = append(got, sample(9, 9, 9, 9))
	spoil(got)
	checkSame(t, "the samples", full(l), text)
}

// checkApart checks that what is done to the memory of one of some lists does not change the others.
func checkApart[T any](t *testing.T, what string, x T, lists [][]T) {
	t.Helper()
	if len(lists) < 2 {
		t.Errorf("%s: only %v", what, lists)
	}
	for i, l := range lists {
		rest := slices.Delete(slices.Clone(lists), i, i+1)
		want := fmt.Sprint(rest)
		_ = append(l, x)
		fill(l, x)
		checkSame(t, what+": the others", fmt.Sprint(rest), want)
	}
}

// The lists of one result share no memory.
func TestListsOfAResultAreApart(t *testing.T) {
	var lists [][]api.Sample
	for _, c := range roomyClusters() {
		lists = append(lists, c.Samples)
	}
	checkApart(t, "Clusters", sample(-79, 0, 0, 0), lists)
	checkApart(t, "Knots", -79, pattern.Knots(roomyCandidates(), 0))
	d, q := deep(4), search()
	l := append(line(0, 0, 0, 0), line(0, 0, 0, 0)...)
	for _, c := range faceCalls()[3:] {
		checkApart(t, c.name, -79, pointsOf(c.do(d, q, l, 0)[0].([]api.Candidate)))
	}
	q.Share = 4
	_, found, _ := pattern.Find(d, api.Snapshot{}, q, []api.Sample{sample(0, 3, 3, 1), sample(1, 3, 3, 1), sample(2, 3, 3, 1), sample(3, 2, 3, 1), sample(3, 4, 3, 1)})
	checkApart(t, "Find", -79, pointsOf(found))
}

func pointsOf(l []api.Candidate) [][]int {
	var lists [][]int
	for _, c := range l {
		lists = append(lists, c.Points)
	}
	return lists
}

func TestEmptyListsAreNil(t *testing.T) {
	d, q := mixed(), search()
	d.Field, d.Cables = []api.Slab{}, []api.Cable{}
	var s api.Snapshot
	for kind := range s.Kinds {
		s.Kinds[kind] = []api.Entry{}
	}
	checkNothing(t, "Alive", pattern.Alive(s, []api.Sample{}))
	checkFails(t, "Clusters", api.OK, results(pattern.Clusters(d, []api.Sample{}))...)
	checkFails(t, "Points", api.OK, results(pattern.Points(d, s, []api.Cluster{}))...)
	checkFails(t, "Points of no samples", api.ErrArg, results(pattern.Points(d, s, []api.Cluster{{Samples: []api.Sample{}}}))...)
	checkSame(t, "CheckPoints", pattern.CheckPoints(d, []api.Point{}), true)
	for _, c := range faceCalls() {
		checkFails(t, c.name, api.OK, c.do(d, q, []api.Point{}, 0)...)
	}
	checkSame(t, "Collide", pattern.Collide(api.Candidate{Points: []int{}}, api.Candidate{}, 0), false)
	checkNothing(t, "Knots", pattern.Knots([]api.Candidate{}, 0))
	checkFails(t, "Choose", api.OK, results(pattern.Choose([]api.Candidate{}, 0))...)
	checkFind(t, d, s, q, []api.Sample{}, nil)
}

// A detector without a plane that has a frame.
func TestOnlyACalorimeter(t *testing.T) {
	d := api.Detector{Name: "c", Planes: []api.Plane{{Face: api.Calorimeter, Cols: 3, Rows: 3, HalfX: 1, HalfY: 1}}}
	l := samples(0, 1, 1, 5, 1, 2, 6)
	checkClusters(t, d, l, cluster(l...))
	checkFind(t, d, api.Snapshot{}, search(), l, nil)
	checkSegments(t, d, search(), nil, 0)
}

// oddText is what all functions return for odd numbers.
func oddText() string {
	text := ""
	d, l := mixed(), []api.Point{at(5, 0, 0), at(3, 1, 0), at(0, 3, 3)}
	add := func(l ...any) { text += fmt.Sprintln(l...) }
	for _, n := range odd() {
		s := snapshot(api.CoDead, n, n, 1, n)
		s.Kinds[api.CoShiftX] = entries(n, n, 0, n)
		for _, x := range []api.Sample{sample(n, n, n, n), sample(0, n, 1, 1), sample(0, 1, n, 1), sample(0, 1, 1, n), sample(2, 1, 1, n), sample(n, 1, 1, 1)} {
			add(pattern.Alive(s, []api.Sample{x, x}))
			add(results(pattern.Clusters(d, []api.Sample{x}))...)
			add(results(pattern.Points(d, s, []api.Cluster{cluster(x), {Plane: n, Charge: n, Samples: []api.Sample{x, x}}}))...)
			add(results(pattern.Find(d, s, search(), []api.Sample{x}))...)
		}
		for _, p := range []api.Point{at(n, 0, 0), at(0, n, n), {Plane: 3, X: n, Y: 0, VX: n, VY: n}, {Plane: 5, X: n, Y: -n, VX: 1, VY: 1}} {
			add(pattern.CheckPoints(d, []api.Point{p}))
			add(results(pattern.Bends(d, p, p, p))...)
			add(results(pattern.Bends(d, p, l[1], l[2]))...)
			add(results(pattern.Bends(d, l[0], l[1], p))...)
			for _, c := range faceCalls() {
				add(c.do(d, wide(), append(slices.Clone(l), p), 0)...)
				add(c.do(d, api.Search{Skip: n, Slope: n, Kink: n, Least: n, Reward: n, Share: n}, append(slices.Clone(l), p), n)...)
			}
		}
		add(results(pattern.Evolve(d, search(), l, 0, n))...)
		add(pattern.Inside(d, wide(), l, api.Segment{A: n, B: n}, api.Segment{A: n, B: n}), pattern.Inside(d, wide(), l, api.Segment{A: 0, B: 1}, api.Segment{A: 1, B: n}))
		some := []api.Candidate{candidate(n, n, n, n, 1), candidate(0, 1, n), candidate(0, 2, 1, n)}
		add(pattern.Collide(some[0], some[2], n), pattern.Knots(some, n))
		add(results(pattern.Choose(some, n))...)
		add(results(pattern.Choose(some[1:], n))...)
	}
	return text
}

// Each call with odd numbers returns, and returns the same when it is made again.
func TestOddNumbers(t *testing.T) {
	checkSame(t, "the second time", oddText(), oddText())
}
