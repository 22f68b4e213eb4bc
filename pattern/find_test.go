package pattern_test

import (
	"math"
	"math/rand"
	"slices"
	"testing"

	"hodoscope/api"
	"hodoscope/pattern"
)

// P6.11: Find.

func checkFind(t *testing.T, d api.Detector, s api.Snapshot, q api.Search, l []api.Sample, points []api.Point, candidates ...api.Candidate) {
	t.Helper()
	p, c, e := pattern.Find(d, s, q, l)
	checkList(t, describe("points of", q, l), p, e, points...)
	checkCandidates(t, describe("candidates of", q, l), c, e, candidates...)
}

func TestFind(t *testing.T) {
	d, q := deep(3), search()
	checkFind(t, d, api.Snapshot{}, q, nil, nil)
	straight := []api.Sample{sample(0, 3, 3, 1), sample(1, 3, 3, 1), sample(2, 3, 3, 1)}
	p := []api.Point{point(0, -5, -5, 8, 8), point(1, -5, -5, 8, 8), point(2, -5, -5, 8, 8)}
	checkFind(t, d, api.Snapshot{}, q, straight, p, candidate(0, 3000, 0, 1, 2))
	checkFind(t, d, snapshot(api.CoDead, key(1, 3, 3), 1), q, straight, []api.Point{p[0], p[2]})
	p[1].X += 4
	checkFind(t, d, snapshot(api.CoShiftX, 1, 4), q, straight, p, candidate(0, 3000-819, 0, 1, 2))
	p[1].X++
	checkFind(t, d, snapshot(api.CoShiftX, 1, 5), q, straight, p, candidate(0, 3000-1024, 0, 1, 2))
	p[1].X++
	checkFind(t, d, snapshot(api.CoShiftX, 1, 6), q, straight, p)
}

// A dead cell takes a cluster apart.
func TestFindWithoutDeadCells(t *testing.T) {
	l := samples(0, 3, 1, 2, 3, 2, 2, 3, 3, 2)
	checkFind(t, deep(3), api.Snapshot{}, search(), l, []api.Point{point(0, -5, -15, 8, 2)})
	checkFind(t, deep(3), snapshot(api.CoDead, key(0, 3, 2), 1), search(), l, []api.Point{point(0, -5, -25, 8, 8), point(0, -5, -5, 8, 8)})
}

// Of the candidates of a face those that are chosen, by Share.
func TestFindChooses(t *testing.T) {
	d, q := deep(3), search()
	l := []api.Sample{sample(0, 3, 3, 1), sample(1, 3, 3, 1), sample(2, 2, 3, 1), sample(2, 4, 3, 1)}
	p := []api.Point{point(0, -5, -5, 8, 8), point(1, -5, -5, 8, 8), point(2, -15, -5, 8, 8), point(2, 5, -5, 8, 8)}
	one, other := candidate(0, 3000-1024, 0, 1, 2), candidate(0, 3000-1024, 0, 1, 3)
	checkFind(t, d, api.Snapshot{}, q, l, p, one)
	q.Share = 1
	checkFind(t, d, api.Snapshot{}, q, l, p, one)
	q.Share = 2
	checkFind(t, d, api.Snapshot{}, q, l, p, one, other)
	q.Share = 0
	s := snapshot(api.CoShiftX, 2, -1)
	p[2].X--
	p[3].X--
	checkFind(t, d, s, q, l, p, candidate(0, 3000-921, 0, 1, 3))
}

// The faces in order, whatever that of the planes; points of all planes, but the calorimeter's.
func TestFindInFaces(t *testing.T) {
	d, q := mixed(), search()
	d.Planes = append(d.Planes, api.Plane{Face: 4, Depth: 60, Cols: 6, Rows: 6, HalfX: 3, HalfY: 4})
	q.Slope, q.Kink = 4096, 4096
	l := []api.Sample{sample(0, 2, 2, 1), sample(1, 2, 2, 1), sample(2, 2, 2, 1), sample(3, 2, 2, 1), sample(4, 2, 2, 1), sample(5, 2, 2, 1), sample(6, 2, 2, 1)}
	p := []api.Point{point(0, 0, 2, 27, 1), point(1, -3, -4, 3, 5), point(3, 8, 0, 21, 3), point(4, -3, -4, 3, 5), point(5, 7, 5, 16, 8), point(6, -3, -4, 3, 5)}
	x, y := plainBends(d, p[4], p[2], p[0])
	checkFind(t, d, api.Snapshot{}, q, l, p, candidate(0, 3000-x-y, 4, 2, 0), candidate(4, 3000, 3, 1, 5))
	checkFind(t, d, api.Snapshot{}, q, l[1:], p[1:], candidate(4, 3000, 2, 0, 4))
}

// Each of the errors that are ErrArg.
func TestBadArgumentsOfFind(t *testing.T) {
	d, l := mixed(), []api.Sample{sample(0, 2, 2, 1), sample(3, 1, 1, 1)}
	for _, bad := range badSearches() {
		checkFails(t, describe("Find", bad), api.ErrArg, results(pattern.Find(d, api.Snapshot{}, bad, l))...)
		checkFails(t, describe("Find", bad), api.ErrArg, results(pattern.Find(d, api.Snapshot{}, bad, nil))...)
	}
	for _, n := range outside(-api.MaxValue, api.MaxValue) {
		checkFails(t, n, api.ErrArg, results(pattern.Find(d, snapshot(api.CoShiftX, 3, n), search(), l))...)
		checkFails(t, n, api.ErrArg, results(pattern.Find(d, snapshot(api.CoShiftY, 0, n), search(), l))...)
		// A shift of a plane without clusters is not used, also where its samples are dead.
		s := snapshot(api.CoShiftX, 1, n, 3, n)
		s.Kinds[api.CoDead] = entries(key(3, 1, 1), 1)
		checkFind(t, d, s, search(), l, []api.Point{point(0, 0, 2, 27, 1)})
	}
	// Samples must be valid also where they are dead.
	dead := snapshot(api.CoDead, key(0, 2, 2), 1)
	checkFails(t, "a dead sample without an Adc", api.ErrArg, results(pattern.Find(d, dead, search(), []api.Sample{sample(0, 2, 2, 0)}))...)
	checkFails(t, "a dead sample twice", api.ErrArg, results(pattern.Find(d, dead, search(), []api.Sample{l[0], l[0]}))...)
}

// grid is samples of n cells of a plane that touch at corners at most, in columns of m.
func grid(plane, n, m int) []api.Sample {
	var l []api.Sample
	for i := range n {
		l = append(l, sample(plane, 2*(i/m), 2*(i%m), 1))
	}
	return l
}

// broad is deep(n) with planes of 64 columns and rows of cells whose centres are 2 apart.
func broad(n int) api.Detector {
	d := deep(n)
	for i := range d.Planes {
		d.Planes[i].Cols, d.Planes[i].Rows, d.Planes[i].HalfX, d.Planes[i].HalfY = 64, 64, 1, 1
	}
	return d
}

// There may be 512 points, and not one more; clusters of the calorimeter do not count.
func TestFindWithManyPoints(t *testing.T) {
	d, q := broad(1), search()
	d.Planes = append(d.Planes, api.Plane{Face: api.Calorimeter, Cols: 64, Rows: 64, HalfX: 1, HalfY: 1})
	l := append(grid(0, 512, 32), grid(1, 700, 32)...)
	p, c, e := pattern.Find(d, api.Snapshot{}, q, l)
	checkSame(t, "512 points", [3]any{len(p), len(c), e}, [3]any{512, 0, api.OK})
	checkFails(t, "513 points", api.ErrArg, results(pattern.Find(d, api.Snapshot{}, q, grid(0, 513, 32)))...)
	s := snapshot(api.CoDead, key(0, 0, 0), 1)
	p, _, e = pattern.Find(d, s, q, grid(0, 513, 32))
	checkSame(t, "513 points, of which one is dead", [2]any{len(p), e}, [2]any{512, api.OK})
}

// Too many points come before too many segments, and an error of one face is that of all.
func TestErrorsOfFind(t *testing.T) {
	d, q := broad(3), wide()
	crowd := append(grid(0, 100, 32), grid(1, 100, 32)...)
	checkFails(t, "10000 segments", api.ErrLong, results(pattern.Find(d, api.Snapshot{}, q, crowd))...)
	checkFails(t, "a shift, and 10000 segments", api.ErrArg, results(pattern.Find(d, snapshot(api.CoShiftX, 1, math.MaxInt), q, crowd))...)
	checkFails(t, "600 points, and 90000 segments", api.ErrArg, results(pattern.Find(d, api.Snapshot{}, q, append(grid(0, 300, 32), grid(1, 300, 32)...)))...)
	checkFails(t, "257 candidates", api.ErrLong, results(pattern.Find(d, api.Snapshot{}, q, append(grid(0, 1, 32), grid(1, 257, 32)...)))...)
	checkFails(t, "25 candidates in a knot", api.ErrLong, results(pattern.Find(d, api.Snapshot{}, q, append(grid(0, 1, 32), grid(1, 25, 32)...)))...)
	p, c, e := pattern.Find(d, api.Snapshot{}, q, append(grid(0, 1, 32), grid(1, 24, 32)...))
	checkSame(t, "24 candidates in a knot", [3]any{len(p), len(c), e}, [3]any{25, 1, api.OK})
	// The error is of a later face: nothing remains of the one before.
	d.Planes = append(d.Planes, d.Planes...)
	for i := 3; i < 6; i++ {
		d.Planes[i].Face = 5
	}
	good := []api.Sample{sample(0, 3, 3, 1), sample(1, 3, 3, 1), sample(2, 3, 3, 1)}
	late := slices.Concat(good, grid(3, 1, 32), grid(4, 25, 32))
	checkFails(t, "a knot of the last face", api.ErrLong, results(pattern.Find(d, api.Snapshot{}, q, late))...)
	p, c, e = pattern.Find(d, api.Snapshot{}, q, late[:28])
	checkSame(t, "24 in the last face", [3]any{len(p), len(c), e}, [3]any{28, 2, api.OK})
}

// P6.11, for random samples: what the other functions return, one after the other.
func TestFindIsWhatTheChapterSays(t *testing.T) {
	r := rand.New(rand.NewSource(15))
	found := 0
	for range 1000 {
		d, q := randomDetector(r), randomSearch(r)
		s := snapshot(api.CoShiftY, 0, between(r, -3, 3), 1, between(r, -3, 3))
		l := randomSamples(r, d, between(r, 6, 20))
		for _, x := range l {
			if chance(r, 10) {
				s.Kinds[api.CoDead] = append(s.Kinds[api.CoDead], entries(key(x.Cell.Plane, x.Cell.Col, x.Cell.Row), between(r, -1, 1))...)
			}
		}
		points, candidates, e := steps(d, s, q, l)
		if e != api.OK {
			checkFails(t, describe("Find", d, s, q, l), e, results(pattern.Find(d, s, q, l))...)
			continue
		}
		found += len(candidates)
		checkFind(t, d, s, q, l, points, candidates...)
	}
	if found < 300 {
		t.Errorf("only %d candidates", found)
	}
}

// steps does what Find does, step by step.
func steps(d api.Detector, s api.Snapshot, q api.Search, l []api.Sample) ([]api.Point, []api.Candidate, api.Errno) {
	clusters, _ := pattern.Clusters(d, pattern.Alive(s, l))
	points, _ := pattern.Points(d, s, clusters)
	var all []api.Candidate
	for face := range 6 {
		candidates, e := pattern.Candidates(d, q, points, face)
		if e != api.OK {
			return nil, nil, e
		}
		indices, e := pattern.Choose(candidates, q.Share)
		if e != api.OK {
			return nil, nil, e
		}
		for _, i := range indices {
			all = append(all, candidates[i])
		}
	}
	return points, all, api.OK
}
