package pattern_test

import (
	"math"
	"math/rand"
	"testing"

	"hodoscope/api"
	"hodoscope/pattern"
)

// P6.6: Evolve, Lengths.

func checkLengths(t *testing.T, d api.Detector, q api.Search, l []api.Point, face int, want ...int) {
	t.Helper()
	got, e := pattern.Lengths(d, q, l, face)
	checkList(t, describe("Lengths", q, l, face), got, e, want...)
}

func checkEvolve(t *testing.T, d api.Detector, q api.Search, l []api.Point, face, steps int, want ...int) {
	t.Helper()
	got, e := pattern.Evolve(d, q, l, face, steps)
	checkList(t, describe("Evolve", q, l, face, steps), got, e, want...)
}

func TestLengths(t *testing.T) {
	d, q := deep(6), search()
	checkLengths(t, d, q, nil, 0)
	checkLengths(t, d, q, line(0, 1), 0, 1)
	checkLengths(t, d, q, line(0, 1, 2, 3, 4, 5), 0, 1, 2, 3, 4, 5)
	checkLengths(t, d, q, line(0, 0, 0, 11, 22, 33), 0, 1, 2, 1, 2, 3)
	// The longest of several chains counts, whatever the order of the points.
	l := []api.Point{at(3, 0, 0), at(2, 0, 0), at(1, 0, 0), at(0, 0, 0), at(2, 9, 0), at(4, 0, 0)}
	checkLengths(t, d, q, l, 0, 4, 3, 2, 2, 1, 1)
	q.Skip = 3
	checkLengths(t, d, q, line(0, 0, 0, 0, 0), 0, 1, 1, 1, 1, 2, 2, 2, 3, 3, 4)
	checkLengths(t, mixed(), q, []api.Point{at(0, 0, 0), at(5, 0, 0), at(3, 0, 0), at(1, 0, 0), at(4, 0, 0)}, 0, 1, 1, 2)
	checkLengths(t, mixed(), q, []api.Point{at(0, 0, 0), at(5, 0, 0), at(3, 0, 0), at(1, 0, 0), at(4, 0, 0)}, 4, 1)
}

func TestEvolve(t *testing.T) {
	d, q, l := deep(6), search(), line(0, 1, 2, 3, 4, 5)
	for _, steps := range []int{0, -1, -64, math.MinInt} {
		checkEvolve(t, d, q, l, 0, steps, 1, 1, 1, 1, 1)
	}
	checkEvolve(t, d, q, l, 0, 1, 1, 2, 2, 2, 2)
	checkEvolve(t, d, q, l, 0, 2, 1, 2, 3, 3, 3)
	checkEvolve(t, d, q, l, 0, 3, 1, 2, 3, 4, 4)
	for _, steps := range []int{4, 5, 63, 64, 65, 1 << 40, math.MaxInt} {
		checkEvolve(t, d, q, l, 0, steps, 1, 2, 3, 4, 5)
	}
	checkEvolve(t, d, q, nil, 0, 5)
	checkEvolve(t, d, q, l, 5, 5)
	checkEvolve(t, d, q, line(0, 0, 0, 11, 22, 33), 0, 5, 1, 2, 1, 2, 3)
}

// The states of all segments become greater at once: a segment of which one is inside that becomes greater in the same
// step, and one whose state is another one's.
func TestEvolveAtOnce(t *testing.T) {
	d, q := deep(4), search()
	backwards := []api.Point{at(3, 0, 0), at(2, 0, 0), at(1, 0, 0), at(0, 0, 0)}
	checkEvolve(t, d, q, backwards, 0, 1, 2, 2, 1)
	checkEvolve(t, d, q, backwards, 0, 2, 3, 2, 1)
	q.Skip = 2
	checkEvolve(t, d, q, line(0, 0, 0, 0), 0, 1, 1, 1, 1, 2, 2, 2)
	checkEvolve(t, d, q, line(0, 0, 0, 0), 0, 2, 1, 1, 1, 2, 2, 3)
}

// The longest chain that there can be has 63 segments.
func TestTheLongestChain(t *testing.T) {
	d, q := deep(64), search()
	q.Least = 64
	var want, points []int
	for i := range 63 {
		want = append(want, i+1)
		points = append(points, i)
	}
	points = append(points, 63)
	l := line(make([]int, 64)...)
	checkLengths(t, d, q, l, 0, want...)
	checkEvolve(t, d, q, l, 0, 64, want...)
	checkEvolve(t, d, q, l, 0, 62, want...)
	want[62] = 62
	checkEvolve(t, d, q, l, 0, 61, want...)
	c, e := pattern.Candidates(d, q, l, 0)
	checkCandidates(t, "Candidates", c, e, candidate(0, 64000, points...))
	c, e = pattern.Follow(d, q, l, 0)
	checkCandidates(t, "Follow", c, e, candidate(0, 64000, points...))
	c, e = pattern.Candidates(d, q, l[:63], 0)
	checkCandidates(t, "Candidates of 63 points", c, e)
}

// P6.6 and P6.13, for random points.
func TestStatesAreWhatTheChapterSays(t *testing.T) {
	r := rand.New(rand.NewSource(6))
	for range 150 {
		d, q := randomDetector(r), randomSearch(r)
		l := randomPoints(r, d, 18)
		for face := range 3 {
			lengths := plainLengths(d, q, l, face)
			checkLengths(t, d, q, l, face, lengths...)
			for steps := range 6 {
				checkEvolve(t, d, q, l, face, steps, plainEvolve(d, q, l, face, steps)...)
			}
		}
	}
}

// P6.13: Evolve with n steps returns the lesser one of n + 1 and the length.
func TestEvolveAndLengths(t *testing.T) {
	r := rand.New(rand.NewSource(7))
	for range 60 {
		d, q := deep(between(r, 2, 64)), randomSearch(r)
		var l []api.Point
		for range between(r, 0, 300) {
			l = append(l, at(between(r, 0, len(d.Planes)-1), between(r, -9, 9), between(r, -9, 9)))
		}
		lengths, e := pattern.Lengths(d, q, l, 0)
		if e == api.ErrLong {
			continue
		}
		for _, steps := range []int{-1, 0, 1, 2, 7, between(r, 8, 63), 64, 99} {
			var want []int
			for _, n := range lengths {
				want = append(want, min(max(steps, 0)+1, n))
			}
			checkEvolve(t, d, q, l, 0, steps, want...)
		}
	}
}
