package pattern_test

import (
	"math/rand"
	"slices"
	"testing"

	"hodoscope/api"
	"hodoscope/pattern"
)

// P6.7: Candidates.

func checkFound(t *testing.T, d api.Detector, q api.Search, l []api.Point, face int, want ...api.Candidate) {
	t.Helper()
	got, e := pattern.Candidates(d, q, l, face)
	checkCandidates(t, describe("Candidates", q, l, face), got, e, want...)
}

func checkFollowed(t *testing.T, d api.Detector, q api.Search, l []api.Point, face int, want ...api.Candidate) {
	t.Helper()
	got, e := pattern.Follow(d, q, l, face)
	checkCandidates(t, describe("Follow", q, l, face), got, e, want...)
}

func TestCandidates(t *testing.T) {
	d, q := deep(6), search()
	checkFound(t, d, q, nil, 0)
	checkFound(t, d, q, line(0), 0)
	checkFound(t, d, q, line(0, 0), 0)
	checkFound(t, d, q, line(0, 0, 0), 0, candidate(0, 3000, 0, 1, 2))
	checkFound(t, d, q, line(0, 5, 11, 17, 23, 29), 0, candidate(0, 6000-102, 0, 1, 2, 3, 4, 5))
	// Two bends of 102, in x and y, at each of the two points in the middle.
	zigzag := []api.Point{at(0, 0, 1), at(1, 1, 1), at(2, 1, 2), at(3, 2, 2)}
	checkFound(t, d, q, zigzag, 0, candidate(0, 4000-4*102, 0, 1, 2, 3))
	checkFound(t, mixed(), q, []api.Point{at(0, 0, 0), at(5, 0, 0), at(3, 0, 0), at(1, 0, 0), at(4, 0, 0)}, 0, candidate(0, 3000, 1, 2, 0))
	q.Least = 2
	checkFound(t, mixed(), q, []api.Point{at(0, 0, 0), at(5, 0, 0), at(3, 0, 0), at(1, 0, 0), at(4, 0, 0)}, 4, candidate(4, 2000, 4, 3))
	checkFound(t, d, q, line(0, 0), 0, candidate(0, 2000, 0, 1))
}

// A chain is maximal if it can't be longer at either end; its parts are no candidates, and those that are too short neither.
func TestMaximalChains(t *testing.T) {
	d, q := deep(5), search()
	broken := line(0, 0, 0, 11, 22)
	checkFound(t, d, q, broken, 0, candidate(0, 3000, 0, 1, 2), candidate(0, 3000, 2, 3, 4))
	q.Least = 4
	checkFound(t, d, q, broken, 0)
	q.Least = 2
	checkFound(t, d, q, line(0, 0, 0, 11, 0), 0, candidate(0, 3000, 0, 1, 2), candidate(0, 2000, 2, 3), candidate(0, 2000, 3, 4))
	checkFound(t, d, q, append(line(0, 0, 0, 0), at(2, 11, 0)), 0, candidate(0, 4000, 0, 1, 2, 3), candidate(0, 2000, 1, 4), candidate(0, 2000, 4, 3))
}

// The order is that of the points' indices, which need not rise.
func TestOrderOfCandidates(t *testing.T) {
	d, q := deep(4), search()
	l := []api.Point{at(3, 0, 0), at(1, 0, 0), at(2, 1, 0), at(0, 0, 0), at(2, 0, 0), at(0, 1, 0), at(3, 1, 0)}
	checkFound(t, d, q, l, 0,
		candidate(0, 4000-306, 3, 1, 2, 0), candidate(0, 4000-102-102, 3, 1, 2, 6),
		candidate(0, 4000, 3, 1, 4, 0), candidate(0, 4000-102, 3, 1, 4, 6),
		candidate(0, 4000-204-204, 5, 1, 2, 0), candidate(0, 4000-204-102, 5, 1, 2, 6),
		candidate(0, 4000-102, 5, 1, 4, 0), candidate(0, 4000-102-102, 5, 1, 4, 6))
}

// With skipped planes a chain and another one with a point more between are both maximal.
func TestCandidatesThatSkip(t *testing.T) {
	d, q := deep(4), search()
	q.Skip = 1
	checkFound(t, d, q, line(0, 0, 0, 0), 0, candidate(0, 4000, 0, 1, 2, 3), candidate(0, 3000, 0, 1, 3), candidate(0, 3000, 0, 2, 3))
	q.Skip = 3
	q.Least = 2
	checkFound(t, d, q, line(0, 0, 0), 0, candidate(0, 3000, 0, 1, 2), candidate(0, 2000, 0, 2))
}

// A weight that would be below 1 is 1.
func TestLightCandidates(t *testing.T) {
	d, q := deep(3), search()
	for _, c := range []struct{ reward, weight int }{{1000, 2284}, {239, 1}, {240, 4}, {238, 1}, {1, 1}, {1 << 20, 3<<20 - 716}} {
		q.Reward = c.reward
		checkFound(t, d, q, line(0, 3, -1), 0, candidate(0, c.weight, 0, 1, 2))
		checkFollowed(t, d, q, line(0, 3, -1), 0, candidate(0, c.weight, 0, 1, 2))
	}
	q = wide()
	q.Reward = 349525
	checkFound(t, d, q, line(0, 0, 10240), 0, candidate(0, 1, 0, 1, 2))
	q.Reward = 349526
	checkFound(t, d, q, line(0, 0, 10240), 0, candidate(0, 2, 0, 1, 2))
}

// There may be 256 candidates, and not one more.
func TestManyCandidates(t *testing.T) {
	d, q := deep(3), wide()
	for _, c := range faceCalls()[3:] {
		l, e := c.do(d, q, fan(16, 16), 0)[0].([]api.Candidate), c.do(d, q, fan(16, 16), 0)[1]
		checkSame(t, c.name+" of 256 chains", [2]any{len(l), e}, [2]any{256, api.OK})
		checkCandidates(t, "the last one", l[255:], api.OK, candidate(0, 2000, 15, 31))
		checkFails(t, c.name+" of 257 chains", api.ErrLong, c.do(d, q, fan(1, 257), 0)...)
		checkFails(t, c.name+" of 4096 chains", api.ErrLong, c.do(d, q, fan(64, 64), 0)...)
	}
	// Those that are too short do not count.
	q.Least = 3
	checkFound(t, d, q, fan(64, 64), 0)
	checkFollowed(t, d, q, fan(64, 64), 0)
	l, e := pattern.Candidates(d, q, append(fan(16, 16), at(2, 0, 0)), 0)
	checkSame(t, "256 longer ones", [2]any{len(l), e}, [2]any{256, api.OK})
	checkFails(t, "258 longer ones", api.ErrLong, results(pattern.Candidates(d, q, append(fan(129, 2), at(2, 0, 0)), 0))...)
}

// maze is m points in each of n planes, all of which are connected: m to the n chains.
func maze(n, m int) []api.Point {
	var l []api.Point
	for i := range n {
		l = append(l, slices.Repeat([]api.Point{at(i, 0, 0)}, m)...)
	}
	return l
}

// More chains than anyone can go through: too many are seen soon, and those that are too short are not gone through.
func TestMazes(t *testing.T) {
	d, q := deep(64), wide()
	q.Least = 64
	checkFound(t, d, q, maze(63, 8), 0)
	checkFails(t, "a maze", api.ErrLong, results(pattern.Candidates(d, q, maze(64, 8), 0))...)
	q.Least = 63
	checkFails(t, "a maze", api.ErrLong, results(pattern.Candidates(d, q, maze(63, 8), 0))...)
	// In a maze that is a plane too short there is a way that goes on. Only the point before its last one is not its own:
	// seven others are in the same place.
	q.Least, q.Kink, q.Slope = 64, 0, 1024
	l := maze(63, 7)
	l = append(l, at(63, 1, 0))
	checkFound(t, d, q, l, 0)
	l[0] = at(0, -62, 0)
	for i := range 62 {
		l = append(l, at(1+i, i-61, 0))
	}
	got, e := pattern.Candidates(d, q, l, 0)
	checkSame(t, "the error of a way through a maze", e, api.OK)
	checkSame(t, "the ways through a maze", len(got), 8)
}

func TestCandidatesAreWhatTheChapterSays(t *testing.T) {
	r := rand.New(rand.NewSource(8))
	found := 0
	for range 300 {
		d, q := randomDetector(r), randomSearch(r)
		l := randomPoints(r, d, 20)
		for face := range 3 {
			want := plainCandidates(d, q, l, face)
			checkFound(t, d, q, l, face, want...)
			found += len(want)
		}
	}
	if found < 500 {
		t.Errorf("only %d candidates", found)
	}
}

// P6.8: Follow.

func TestFollow(t *testing.T) {
	d, q := deep(6), search()
	checkFollowed(t, d, q, nil, 0)
	checkFollowed(t, d, q, line(0, 0), 0)
	checkFollowed(t, d, q, line(0, 0, 0), 0, candidate(0, 3000, 0, 1, 2))
	checkFollowed(t, d, q, line(0, 5, 11, 17, 23, 29), 0, candidate(0, 6000-102, 0, 1, 2, 3, 4, 5))
	checkFollowed(t, d, q, line(0, 0, 0, 11, 22), 0, candidate(0, 3000, 0, 1, 2), candidate(0, 3000, 2, 3, 4))
	q.Least = 2
	checkFollowed(t, d, q, line(0, 0), 0, candidate(0, 2000, 0, 1))
	checkFollowed(t, mixed(), q, []api.Point{at(0, 0, 0), at(5, 0, 0), at(3, 0, 0), at(1, 0, 0), at(4, 0, 0)}, 4, candidate(4, 2000, 4, 3))
}

// Of the points of a plane the filter takes the one with the least sum of both bends, of several the first.
func TestFollowTakesTheLeastBends(t *testing.T) {
	d, q := deep(3), search()
	from := line(0, 0)
	for _, c := range []struct {
		ends []api.Point
		take int
	}{
		{[]api.Point{at(2, 3, 0), at(2, 1, 0), at(2, 2, 0)}, 1},
		{[]api.Point{at(2, 2, 2), at(2, 3, 0), at(2, 0, 4)}, 1},
		{[]api.Point{at(2, 3, 3), at(2, 4, 1), at(2, -1, 4)}, 1},
		{[]api.Point{at(2, 3, 0), at(2, 0, 2), at(2, 2, 0)}, 1},
		{[]api.Point{at(2, 3, 0), at(2, -2, 0), at(2, 2, 0), at(2, 0, 2)}, 1},
		{[]api.Point{at(2, 2, 0), at(2, 0, -2), at(2, 1, 1)}, 0},
		{[]api.Point{at(2, 11, 0), at(2, 0, 10)}, 1},
		{[]api.Point{at(2, 9, 9), at(2, 0, 11), at(2, 9, -9)}, 0},
	} {
		l := append(slices.Clone(from), c.ends...)
		x, y := plainBends(d, l[0], l[1], c.ends[c.take])
		checkFollowed(t, d, q, l, 0, candidate(0, 3000-x-y, 0, 1, 2+c.take))
	}
}

// The nearer plane comes first, whatever the bends; one without a point that fits is passed over.
func TestFollowTakesTheNearestPlane(t *testing.T) {
	d, q := deep(5), search()
	q.Skip = 1
	checkFollowed(t, d, q, []api.Point{at(0, 0, 0), at(1, 0, 0), at(3, 0, 0), at(2, 9, 0)}, 0, candidate(0, 3000-921, 0, 1, 3))
	checkFollowed(t, d, q, []api.Point{at(0, 0, 0), at(1, 0, 0), at(3, 0, 0), at(2, 11, 0)}, 0, candidate(0, 3000, 0, 1, 2))
	checkFollowed(t, d, q, []api.Point{at(0, 0, 0), at(1, 0, 0), at(3, 0, 0), at(2, 21, 0)}, 0, candidate(0, 3000, 0, 1, 2))
	// Two planes without a point are too many.
	checkFollowed(t, d, q, []api.Point{at(0, 0, 0), at(1, 0, 0), at(4, 0, 0)}, 0)
	q.Skip = 2
	checkFollowed(t, d, q, []api.Point{at(0, 0, 0), at(1, 0, 0), at(4, 0, 0)}, 0, candidate(0, 3000, 0, 1, 2))
	checkFollowed(t, d, q, []api.Point{at(0, 0, 0), at(1, 0, 0), at(4, 0, 0), at(2, 11, 0), at(3, 30, 0)}, 0,
		candidate(0, 3000, 0, 1, 2), candidate(0, 3000-819, 1, 3, 4))
}

// The filter does not turn back: the point that it likes best may lead to a chain that is too short.
func TestFollowDoesNotTurnBack(t *testing.T) {
	d, q := deep(5), search()
	l := append(line(0, 0, 0), at(2, 6, 0), at(3, 12, 0), at(4, 18, 0))
	q.Least = 4
	checkFollowed(t, d, q, l, 0)
	checkFound(t, d, q, l, 0, candidate(0, 5000-614, 0, 1, 3, 4, 5))
	q.Least = 3
	checkFollowed(t, d, q, l, 0, candidate(0, 3000, 0, 1, 2), candidate(0, 3000-614, 2, 4, 5))
}

// More segments begin chains than there may be candidates, of which just 256 are long enough.
func TestFollowWithManyStarts(t *testing.T) {
	d, q := deep(3), wide()
	q.Kink, q.Least = 1024, 3
	l := slices.Repeat([]api.Point{at(0, 0, 0)}, 300)
	for i := range 44 {
		l[i].X = 1000
	}
	l = append(l, at(1, 0, 0), at(2, 0, 0))
	got, e := pattern.Follow(d, q, l, 0)
	checkSame(t, "256 of 300", [2]any{len(got), e}, [2]any{256, api.OK})
	checkCandidates(t, "the first of 256", got[:1], e, candidate(0, 3000, 44, 300, 301))
	l[20].X = 0
	checkFails(t, "257 of 300", api.ErrLong, results(pattern.Follow(d, q, l, 0))...)
}

func TestFollowIsWhatTheChapterSays(t *testing.T) {
	r := rand.New(rand.NewSource(9))
	for range 400 {
		d, q := randomDetector(r), randomSearch(r)
		l := randomPoints(r, d, 30)
		for face := range 3 {
			checkFollowed(t, d, q, l, face, plainFollow(d, q, l, face)...)
		}
	}
}

// P6.14: each of Follow's candidates is one of Candidates.
func TestFollowedCandidatesAreCandidates(t *testing.T) {
	r := rand.New(rand.NewSource(10))
	found := 0
	for range 400 {
		d, q := randomDetector(r), randomSearch(r)
		l := randomPoints(r, d, 30)
		for face := range 3 {
			all, e := pattern.Candidates(d, q, l, face)
			some, f := pattern.Follow(d, q, l, face)
			if e != api.OK || f != api.OK {
				continue
			}
			found += len(some)
			for _, c := range some {
				if !slices.ContainsFunc(all, func(x api.Candidate) bool { return sameCandidate(c, x) }) {
					t.Errorf("%v is not in %v", c, all)
				}
			}
		}
	}
	if found < 300 {
		t.Errorf("only %d candidates", found)
	}
}

// P6.16 and P0.4: tracks that are apart.

// apart returns the points of some tracks of a detector with n planes, in any order, and the candidates that are these
// tracks. A track has an x of its own, so far from the others that no two make a segment.
func apart(r *rand.Rand, d api.Detector, q api.Search) ([]api.Point, []api.Candidate) {
	var l []api.Point
	var tracks [][]api.Point
	for i := range between(r, 1, 12) {
		n := between(r, q.Least, len(d.Planes))
		from := between(r, 0, len(d.Planes)-n)
		x, y := 1000*i, between(r, -50, 50)
		stepX, stepY := between(r, -15, 15), between(r, -15, 15)
		var track []api.Point
		for j := range n {
			track = append(track, at(from+j, x+j*stepX+between(r, -1, 1), y+j*stepY+between(r, -1, 1)))
		}
		tracks = append(tracks, track)
		l = append(l, track...)
	}
	r.Shuffle(len(l), func(i, j int) { l[i], l[j] = l[j], l[i] })
	var want []api.Candidate
	for _, track := range tracks {
		want = append(want, trackOf(d, q, l, track))
	}
	return l, want
}

// trackOf returns the candidate that a track is, of different points.
func trackOf(d api.Detector, q api.Search, l, track []api.Point) api.Candidate {
	var chain []api.Segment
	for i := 1; i < len(track); i++ {
		chain = append(chain, api.Segment{A: slices.Index(l, track[i-1]), B: slices.Index(l, track[i])})
	}
	return plainCandidate(d, q, l, 0, chain)
}

func TestTracksThatAreApart(t *testing.T) {
	r := rand.New(rand.NewSource(11))
	for range 300 {
		d, q := deep(between(r, 4, 20)), search()
		q.Least = between(r, 2, 4)
		l, want := apart(r, d, q)
		slices.SortFunc(want, func(a, b api.Candidate) int { return slices.Compare(a.Points, b.Points) })
		checkFound(t, d, q, l, 0, want...)
		checkFollowed(t, d, q, l, 0, want...)
		var all []int
		for i := range want {
			all = append(all, i)
		}
		for _, share := range []int{-1, 0, 1, 5} {
			chosen, e := pattern.Choose(want, share)
			checkList(t, "Choose of tracks", chosen, e, all...)
		}
	}
}
