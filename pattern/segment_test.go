package pattern_test

import (
	"math/rand"
	"slices"
	"testing"

	"hodoscope/api"
	"hodoscope/pattern"
)

// P6.4: CheckSearch, CheckPoints, Segments.

func TestCheckSearch(t *testing.T) {
	for _, q := range []api.Search{
		search(), wide(),
		{Skip: 0, Slope: 0, Kink: 0, Least: 2, Reward: 1, Share: 0},
		{Skip: 3, Slope: 1 << 20, Kink: 1 << 20, Least: 64, Reward: 1 << 20, Share: 64},
	} {
		checkSame(t, describe(q), pattern.CheckSearch(q), true)
	}
	for _, q := range badSearches() {
		checkSame(t, describe(q), pattern.CheckSearch(q), false)
	}
	checkSame(t, "the empty search", pattern.CheckSearch(api.Search{}), false)
}

func TestCheckPoints(t *testing.T) {
	d := mixed()
	for _, l := range [][]api.Point{
		nil, {at(0, 0, 0)}, {at(5, 1, 2), at(5, 1, 2), at(1, 3, 4)},
		{{Plane: 3, X: -api.MaxPlace, Y: api.MaxPlace, VX: 1, VY: api.MaxVariance}},
		{{Plane: 4, X: api.MaxPlace, Y: -api.MaxPlace, VX: api.MaxVariance, VY: 1}},
		slices.Repeat([]api.Point{at(0, 0, 0)}, 512),
	} {
		checkSame(t, describe(l), pattern.CheckPoints(d, l), true)
	}
	for _, l := range badPoints() {
		checkSame(t, describe(l), pattern.CheckPoints(d, l), false)
	}
	for _, bad := range badDetectors() {
		checkSame(t, describe(bad), pattern.CheckPoints(bad, nil), false)
		checkSame(t, describe(bad), pattern.CheckPoints(bad, []api.Point{at(0, 0, 0)}), false)
	}
}

func checkSegments(t *testing.T, d api.Detector, q api.Search, l []api.Point, face int, want ...int) {
	t.Helper()
	got, e := pattern.Segments(d, q, l, face)
	checkList(t, describe("Segments", q, l, face), got, e, segments(want...)...)
}

// A segment may have just the slope, in each direction, and not more.
func TestSlopesOfSegments(t *testing.T) {
	d, q := deep(2), search()
	for _, c := range []struct{ slope, just int }{{2048, 20}, {1024, 10}, {0, 0}, {1 << 20, 10240}, {102, 0}, {103, 1}, {511, 4}, {512, 5}} {
		q.Slope = c.slope
		n := c.just
		for _, end := range [][2]int{{n, 0}, {-n, 0}, {0, n}, {0, -n}, {n, n}, {-n, n}, {n, -n}} {
			checkSegments(t, d, q, []api.Point{at(0, 7, -3), at(1, 7+end[0], -3+end[1])}, 0, 0, 1)
		}
		for _, end := range [][2]int{{n + 1, 0}, {-n - 1, 0}, {0, n + 1}, {0, -n - 1}, {n + 1, n}, {n, -n - 1}} {
			checkSegments(t, d, q, []api.Point{at(0, 7, -3), at(1, 7+end[0], -3+end[1])}, 0)
		}
	}
}

// Slopes are those of the distance of the planes, which need not be neighbours.
func TestDistancesOfSegments(t *testing.T) {
	d, q := mixed(), search()
	q.Skip = 1
	near, middle, far := at(5, 0, 0), at(3, 300, -300), at(0, 400, 400)
	checkSegments(t, d, q, []api.Point{near, middle, far}, 0, 0, 1, 0, 2)
	middle.X, far.Y = 301, 401
	checkSegments(t, d, q, []api.Point{near, middle, far}, 0)
	checkSegments(t, d, q, []api.Point{middle, at(0, 401, -200)}, 0, 0, 1)
	checkSegments(t, d, q, []api.Point{middle, at(0, 402, -200)}, 0)
}

// The coordinates and depths of greatest differences.
func TestGreatSegments(t *testing.T) {
	d, q := deep(2), wide()
	d.Planes[0].Depth, d.Planes[1].Depth = 1, api.MaxDepth
	reach := 1024 * (api.MaxDepth - 1)
	low, high := at(0, -api.MaxPlace, -api.MaxPlace), at(1, api.MaxPlace, api.MaxPlace)
	checkSegments(t, d, q, []api.Point{low, high, at(1, reach-api.MaxPlace, -api.MaxPlace), at(1, reach+1-api.MaxPlace, -api.MaxPlace)}, 0, 0, 2)
}

// There may be Skip planes of the Stack between, and not one more; planes of other faces do not count.
func TestSkippedPlanesOfSegments(t *testing.T) {
	d, q := deep(6), search()
	l := line(0, 0, 0, 0, 0, 0)
	checkSegments(t, d, q, l, 0, 0, 1, 1, 2, 2, 3, 3, 4, 4, 5)
	q.Skip = 1
	checkSegments(t, d, q, l, 0, 0, 1, 0, 2, 1, 2, 1, 3, 2, 3, 2, 4, 3, 4, 3, 5, 4, 5)
	for skip := range 4 {
		q.Skip = skip
		checkSegments(t, d, q, []api.Point{l[0], l[1+skip]}, 0, 0, 1)
		checkSegments(t, d, q, []api.Point{l[0], l[2+skip]}, 0)
	}
	q.Skip = 0
	for i := 1; i < 6; i += 2 {
		d.Planes[i].Face = 3
	}
	checkSegments(t, d, q, l, 0, 0, 2, 2, 4)
	checkSegments(t, d, q, l, 3, 1, 3, 3, 5)
}

// Segments go from a plane to one behind it in the Stack, whatever the order of planes and points; by rising A, then B.
func TestOrderOfSegments(t *testing.T) {
	d, q := mixed(), wide()
	l := []api.Point{at(0, 1, 0), at(5, 2, 0), at(3, 3, 0), at(1, 0, 0), at(3, 4, 0), at(5, 5, 0), at(4, 0, 0), at(0, 6, 0), at(3, 3, 0)}
	checkSegments(t, d, q, l, 0, 1, 2, 1, 4, 1, 8, 2, 0, 2, 7, 4, 0, 4, 7, 5, 2, 5, 4, 5, 8, 8, 0, 8, 7)
	checkSegments(t, d, q, l, 4, 6, 3)
	for _, face := range []int{1, 2, 3, 5} {
		checkSegments(t, d, q, l, face)
	}
	checkSegments(t, d, q, nil, 0)
	checkSegments(t, d, q, l[:1], 0)
	checkSegments(t, d, q, []api.Point{at(5, 0, 0), at(5, 0, 0)}, 0)
}

// fan is n points of the plane 0, and m of the plane 1: n times m segments of wide().
func fan(n, m int) []api.Point {
	return append(slices.Repeat([]api.Point{at(0, 0, 0)}, n), slices.Repeat([]api.Point{at(1, 0, 0)}, m)...)
}

// A face may have 4096 segments, and not one more.
func TestManySegments(t *testing.T) {
	d, q := deep(4), wide()
	l, e := pattern.Segments(d, q, fan(64, 64), 0)
	checkSame(t, "4096 segments", [2]any{len(l), e}, [2]any{4096, api.OK})
	checkSame(t, "the last one", l[4095], api.Segment{A: 63, B: 127})
	// Those of other faces do not count.
	d.Planes[2].Face, d.Planes[3].Face = 1, 1
	others := append(fan(64, 64), at(2, 0, 0), at(3, 0, 0))
	l, e = pattern.Segments(d, q, others, 0)
	checkSame(t, "4096 segments", [2]any{len(l), e}, [2]any{4096, api.OK})
	l, e = pattern.Segments(d, q, others, 1)
	checkList(t, "the other face", l, e, segments(128, 129)...)
	q.Least = 3
	for _, c := range faceCalls() {
		checkSame(t, c.name+" of 4096 segments", slices.Contains(c.do(d, q, fan(64, 64), 0), any(api.OK)), true)
		checkFails(t, c.name+" of 4097 segments", api.ErrLong, c.do(d, q, fan(17, 241), 0)...)
		checkFails(t, c.name+" of 65536 segments", api.ErrLong, c.do(d, q, fan(256, 256), 0)...)
	}
}

// The errors of Segments, also those of the other functions of a face, and which of them comes first.
func TestErrorsOfFaces(t *testing.T) {
	d, q, good := mixed(), search(), []api.Point{at(5, 0, 0), at(3, 0, 0)}
	many := deep(2)
	for _, c := range faceCalls() {
		for _, face := range outside(0, 5) {
			checkFails(t, c.name, api.ErrNone, c.do(d, q, good, face)...)
			checkFails(t, c.name, api.ErrNone, c.do(d, q, nil, face)...)
			checkFails(t, c.name, api.ErrNone, c.do(many, wide(), fan(256, 256), face)...)
		}
		checkFails(t, c.name, api.ErrNone, c.do(d, q, good, api.Calorimeter)...)
		for _, l := range badPoints() {
			checkFails(t, describe(c.name, l), api.ErrArg, c.do(d, q, l, 0)...)
			checkFails(t, describe(c.name, l), api.ErrArg, c.do(d, q, l, 6)...)
		}
		for _, bad := range badSearches() {
			checkFails(t, describe(c.name, bad), api.ErrArg, c.do(d, bad, good, 0)...)
			checkFails(t, describe(c.name, bad), api.ErrArg, c.do(d, bad, nil, -1)...)
			checkFails(t, describe(c.name, bad), api.ErrArg, c.do(many, bad, fan(256, 256), 0)...)
		}
		for _, bad := range badDetectors() {
			checkFails(t, describe(c.name, bad), api.ErrArg, c.do(bad, q, nil, 0)...)
			checkFails(t, describe(c.name, bad), api.ErrArg, c.do(bad, q, good, 7)...)
		}
	}
}

// P6.5: Bends, Inside.

func checkBends(t *testing.T, d api.Detector, l []api.Point, wantX, wantY int) {
	t.Helper()
	x, y, ok := pattern.Bends(d, l[0], l[1], l[2])
	checkSame(t, describe("Bends", l), [3]any{x, y, ok}, [3]any{wantX, wantY, true})
}

func TestBends(t *testing.T) {
	d := deep(3)
	checkBends(t, d, line(0, 5, 10), 0, 0)
	checkBends(t, d, line(0, 5, 11), 102, 0)
	checkBends(t, d, line(0, 5, 9), 102, 0)
	checkBends(t, d, line(0, 0, 10), 1024, 0)
	checkBends(t, d, line(3, -7, 3), 2048, 0)
	checkBends(t, d, []api.Point{at(0, 0, 3), at(1, 5, -7), at(2, 10, 3)}, 0, 2048)
	checkBends(t, d, []api.Point{at(0, 1, 2), at(1, 3, 1), at(2, 8, 2)}, 307, 204)
	// Planes that are 150 and 50 apart.
	m := mixed()
	checkBends(t, m, []api.Point{at(5, 0, 0), at(3, 150, 0), at(0, 200, 1)}, 0, 20)
	checkBends(t, m, []api.Point{at(5, 0, 0), at(3, 150, 30), at(0, 201, 40)}, 20, 0)
	checkBends(t, m, []api.Point{at(5, 0, 0), at(3, 149, 0), at(0, 200, 0)}, 27, 0)
	m.Planes[0].Depth = 251
	checkBends(t, m, []api.Point{at(5, 0, 0), at(3, 150, 0), at(0, 200, 1)}, 50176, 1024)
}

// The greatest bends, and those of planes that are as far apart as can be.
func TestGreatBends(t *testing.T) {
	d := deep(3)
	n := api.MaxPlace
	l := []api.Point{at(0, -n, n), at(1, n, -n), at(2, -n, n)}
	checkBends(t, d, l, 4*n*1024/10, 4*n*1024/10)
	d.Planes[0].Depth, d.Planes[1].Depth, d.Planes[2].Depth = 1, 2, 3
	checkBends(t, d, l, 4*n*1024, 4*n*1024)
	d.Planes[2].Depth = api.MaxDepth
	checkBends(t, d, l, plainBend(-n, n, -n, 1, 65534), plainBend(-n, n, -n, 1, 65534))
	d.Planes[1].Depth = 32768
	checkBends(t, d, l, plainBend(-n, n, -n, 32767, 32768), plainBend(-n, n, -n, 32767, 32768))
}

func checkNoBends(t *testing.T, d api.Detector, a, b, c api.Point) {
	t.Helper()
	x, y, ok := pattern.Bends(d, a, b, c)
	checkSame(t, describe("Bends", a, b, c), [3]any{x, y, ok}, [3]any{0, 0, false})
}

// Points that are not valid, of other faces, or not by rising depths.
func TestNoBends(t *testing.T) {
	d := mixed()
	a, b, c, other := at(5, 0, 0), at(3, 9, 0), at(0, 0, 9), at(4, 0, 0)
	for _, l := range [][3]api.Point{
		{a, c, b}, {b, a, c}, {b, c, a}, {c, a, b}, {c, b, a}, {a, a, c}, {a, c, c}, {a, b, a}, {b, b, b},
		{other, b, c}, {a, other, c}, {a, b, other}, {other, at(1, 0, 0), c}, {a, b, at(1, 0, 0)},
		{at(2, 0, 0), b, c}, {a, at(2, 0, 0), c}, {a, b, at(2, 0, 0)},
	} {
		checkNoBends(t, d, l[0], l[1], l[2])
	}
	for _, l := range badPoints() {
		bad := l[len(l)-1]
		if len(l) < 3 {
			checkNoBends(t, d, bad, b, c)
			checkNoBends(t, d, a, bad, c)
			checkNoBends(t, d, a, b, bad)
		}
	}
	for _, bad := range badDetectors() {
		checkNoBends(t, bad, a, b, c)
	}
	checkBends(t, d, []api.Point{a, b, c}, 245, 184)
}

func checkInside(t *testing.T, d api.Detector, q api.Search, l []api.Point, want bool, indices ...int) {
	t.Helper()
	s := segments(indices...)
	checkSame(t, describe("Inside", q, l, indices), pattern.Inside(d, q, l, s[0], s[1]), want)
}

// Two segments may have a bend of just Kink, in x and in y, and not of one more.
func TestKinks(t *testing.T) {
	d, q := deep(3), wide()
	for _, c := range []struct{ kink, just int }{{1024, 10}, {1023, 9}, {1025, 10}, {0, 0}, {101, 0}, {102, 1}, {204, 2}, {1 << 20, 10240}} {
		q.Kink = c.kink
		for _, end := range [][2]int{{c.just, 0}, {-c.just, 0}, {0, c.just}, {c.just, -c.just}} {
			checkInside(t, d, q, []api.Point{at(0, 0, 0), at(1, 0, 0), at(2, end[0], end[1])}, true, 0, 1, 1, 2)
		}
	}
	q.Slope = 1 << 20
	for _, c := range []struct{ kink, more int }{{1024, 11}, {1023, 10}, {1025, 11}, {0, 1}, {101, 1}, {102, 2}, {204, 3}} {
		q.Kink = c.kink
		for _, end := range [][2]int{{c.more, 0}, {-c.more, 0}, {0, c.more}, {0, -c.more}, {c.more, 1}} {
			checkInside(t, d, q, []api.Point{at(0, 0, 0), at(1, 0, 0), at(2, end[0], end[1])}, false, 0, 1, 1, 2)
		}
	}
	// A bend of just one more than Kink.
	d.Planes[1].Depth, d.Planes[2].Depth = 11, 12
	q.Kink = 1023
	checkInside(t, d, q, line(0, 0, 1), false, 0, 1, 1, 2)
	q.Kink = 1024
	checkInside(t, d, q, line(0, 0, 1), true, 0, 1, 1, 2)
	checkInside(t, d, q, line(0, 0, -1), true, 0, 1, 1, 2)
}

func TestInside(t *testing.T) {
	d, q := mixed(), search()
	l := []api.Point{at(0, 0, 0), at(5, 0, 0), at(3, 0, 0), at(4, 0, 0), at(1, 0, 0), at(0, 200, 0), at(3, 1, 0)}
	checkInside(t, d, q, l, true, 1, 2, 2, 0)
	checkInside(t, d, q, l, true, 1, 6, 6, 0)
	for _, no := range [][]int{
		{2, 0, 1, 2}, {1, 2, 1, 2}, {1, 2, 6, 0}, {1, 6, 2, 0}, {2, 1, 1, 0}, {0, 2, 2, 1}, {1, 1, 1, 1}, {1, 2, 2, 2}, {2, 2, 2, 0},
		{3, 4, 4, 0}, {1, 2, 2, 4}, {3, 2, 2, 0}, {1, 4, 4, 0}, {4, 3, 3, 4}, {1, 2, 2, 5}, {1, 2, 2, 6}, {1, 0, 0, 5},
	} {
		checkInside(t, d, q, l, false, no...)
	}
	// The segment (1, 0) skips a plane.
	long := api.Detector{Name: "long", Planes: append(d.Planes, api.Plane{Face: 0, Depth: 400, Cols: 1, Rows: 1, HalfX: 1, HalfY: 1})}
	l = append(l, at(6, 0, 0))
	checkInside(t, long, q, l, false, 1, 0, 0, 7)
	checkInside(t, long, q, l, false, 1, 2, 2, 7)
	q.Skip = 1
	checkInside(t, long, q, l, true, 1, 0, 0, 7)
	checkInside(t, long, q, l, true, 1, 2, 2, 7)
}

func TestInsideOfBadArguments(t *testing.T) {
	d, q := mixed(), search()
	l := []api.Point{at(5, 0, 0), at(3, 0, 0), at(0, 0, 0)}
	for _, n := range outside(0, 2) {
		for _, no := range [][]int{{n, 1, 1, 2}, {0, n, 1, 2}, {0, 1, n, 2}, {0, 1, 1, n}, {0, n, n, 2}, {n, n, n, n}} {
			checkInside(t, d, q, l, false, no...)
		}
	}
	checkInside(t, d, q, nil, false, 0, 0, 0, 0)
	for _, bad := range badSearches() {
		checkInside(t, d, bad, l, false, 0, 1, 1, 2)
	}
	for _, bad := range badPoints() {
		checkInside(t, d, q, append(slices.Clone(l), bad...), false, 0, 1, 1, 2)
	}
	for _, bad := range badDetectors() {
		checkInside(t, bad, q, l, false, 0, 1, 1, 2)
	}
	// The number of a face's segments does not matter.
	crowd := append(fan(255, 255), at(2, 0, 0))
	checkInside(t, deep(3), wide(), crowd, true, 3, 300, 300, 510)
}

func TestSegmentsAreWhatTheChapterSays(t *testing.T) {
	r := rand.New(rand.NewSource(4))
	for range 400 {
		d, q := randomDetector(r), randomSearch(r)
		l := randomPoints(r, d, 25)
		for face := range api.Faces {
			got, e := pattern.Segments(d, q, l, face)
			checkList(t, describe(d, q, l, face), got, e, plainSegments(d, q, l, face)...)
		}
		checkAllInside(t, d, q, l)
	}
}

// checkAllInside asks Inside of all pairs of segments of all faces.
func checkAllInside(t *testing.T, d api.Detector, q api.Search, l []api.Point) {
	t.Helper()
	for face := range api.Faces {
		all := plainSegments(d, q, l, face)
		for _, s := range all {
			for _, next := range all {
				if pattern.Inside(d, q, l, s, next) != plainInside(d, q, l, s, next) {
					t.Errorf("Inside(%v, %v, %v, %v) is not %v", q, l, s, next, plainInside(d, q, l, s, next))
				}
			}
		}
	}
}

func TestBendsAreWhatTheChapterSays(t *testing.T) {
	r := rand.New(rand.NewSource(5))
	for range 3000 {
		d := deep(3)
		depth := 0
		for i := range d.Planes {
			depth += between(r, 1, 1+r.Intn(20000))
			d.Planes[i].Depth = depth
		}
		reach := 1 << between(r, 1, 32)
		var l []api.Point
		for i := range 3 {
			l = append(l, at(i, between(r, -reach, reach), between(r, -reach, reach)))
		}
		x, y := plainBends(d, l[0], l[1], l[2])
		checkBends(t, d, l, x, y)
	}
}
