package pattern_test

import (
	"fmt"
	"math"
	"math/bits"
	"math/rand"
	"slices"
	"testing"

	"hodoscope/api"
	"hodoscope/pattern"
)

// P6.9: Collide, Knots.

func checkCollide(t *testing.T, a, b []int, share int, want bool) {
	t.Helper()
	x, y := candidate(0, 1, a...), candidate(1, 2, b...)
	checkSame(t, fmt.Sprint("Collide ", a, b, share), pattern.Collide(x, y, share), want)
	checkSame(t, fmt.Sprint("Collide ", b, a, share), pattern.Collide(y, x, share), want)
}

func TestCollide(t *testing.T) {
	a := []int{1, 2, 3, 4}
	for _, c := range []struct {
		b      []int
		common int
	}{
		{nil, 0}, {[]int{5, 6}, 0}, {[]int{4}, 1}, {[]int{0, 1, 5}, 1}, {[]int{4, 3}, 2}, {[]int{9, 3, 7, 1, 2}, 3}, {[]int{4, 2, 3, 1}, 4}, {[]int{0, 1, 2, 3, 4, 5}, 4},
	} {
		for share := range 6 {
			checkCollide(t, a, c.b, share, c.common > share)
		}
		// A Share below 0 counts as 0.
		for _, share := range []int{-1, -2, math.MinInt} {
			checkCollide(t, a, c.b, share, c.common > 0)
		}
		for _, share := range []int{64, 1 << 40, math.MaxInt} {
			checkCollide(t, a, c.b, share, false)
		}
	}
	checkCollide(t, nil, nil, 0, false)
	checkCollide(t, a, a, 3, true)
	checkCollide(t, a, a, 4, false)
}

// What counts are different indices; which ones they are does not matter.
func TestCollideOfOddIndices(t *testing.T) {
	checkCollide(t, []int{7, 7, 7}, []int{7, 7}, 0, true)
	checkCollide(t, []int{7, 7, 7}, []int{7, 7}, 1, false)
	checkCollide(t, []int{7, 8, 7, 8, 7}, []int{8, 7, 7}, 1, true)
	checkCollide(t, []int{7, 8, 7, 8, 7}, []int{8, 7, 7}, 2, false)
	checkCollide(t, []int{math.MinInt, -1, math.MaxInt}, []int{math.MaxInt, 0, math.MinInt}, 1, true)
	checkCollide(t, []int{math.MinInt, -1, math.MaxInt}, []int{math.MaxInt, 0, math.MinInt}, 2, false)
	// Neither faces nor weights are asked for.
	checkSame(t, "of one face", pattern.Collide(candidate(3, -1, 5), candidate(3, 0, 5), 0), true)
}

// ofPoints makes candidates of the weight 1 with some points.
func ofPoints(points ...[]int) []api.Candidate {
	var l []api.Candidate
	for _, p := range points {
		l = append(l, candidate(0, 1, p...))
	}
	return l
}

func checkKnots(t *testing.T, l []api.Candidate, share int, want ...[]int) {
	t.Helper()
	got := pattern.Knots(l, share)
	if !slices.EqualFunc(got, want, slices.Equal) {
		t.Errorf("Knots(%v, %d): %v, want %v", l, share, got, want)
	}
}

func TestKnots(t *testing.T) {
	checkKnots(t, nil, 0)
	checkKnots(t, ofPoints(nil), 0, []int{0})
	checkKnots(t, ofPoints(nil, nil), 0, []int{0}, []int{1})
	checkKnots(t, ofPoints([]int{1}, []int{2}, []int{1}), 0, []int{0, 2}, []int{1})
	checkKnots(t, ofPoints([]int{9}, []int{5, 6}, []int{6, 7}, []int{8}, []int{5, 9}), 0, []int{0, 1, 2, 4}, []int{3})
	checkKnots(t, ofPoints([]int{1}, []int{1}, []int{1}), -5, []int{0, 1, 2})
	checkKnots(t, ofPoints([]int{1}, []int{1}, []int{1}), 1, []int{0}, []int{1}, []int{2})
	checkKnots(t, ofPoints([]int{1, 2}, []int{2, 3}, []int{3, 2}, []int{1, 1, 2}), 1, []int{0, 3}, []int{1, 2})
	checkKnots(t, ofPoints([]int{1, 2}, []int{1, 2}), math.MaxInt, []int{0}, []int{1})
}

// Candidates that are connected by others only, of which the connecting one comes last, or first.
func TestKnotsThatOthersConnect(t *testing.T) {
	checkKnots(t, ofPoints([]int{1, 2}, []int{3, 4}, []int{2, 3}), 0, []int{0, 1, 2})
	checkKnots(t, ofPoints([]int{2, 3}, []int{7}, []int{3, 4}, []int{1, 2}), 0, []int{0, 2, 3}, []int{1})
	checkKnots(t, ofPoints([]int{1, 2}, []int{5, 6}, []int{3, 4}, []int{7, 8}, []int{4, 1}, []int{8, 5}), 0, []int{0, 2, 4}, []int{1, 3, 5})
	checkKnots(t, ofPoints([]int{1, 2}, []int{5, 6}, []int{3, 4}, []int{7, 8}, []int{4, 1}, []int{8, 5}, []int{2, 6}), 0, []int{0, 1, 2, 3, 4, 5, 6})
	// Points in common with several others do not add up.
	checkKnots(t, ofPoints([]int{1, 2}, []int{3, 4}, []int{2, 3}), 1, []int{0}, []int{1}, []int{2})
}

// randomCandidates returns n candidates with few points of 0 to below most, and small weights.
func randomCandidates(r *rand.Rand, n, most int) []api.Candidate {
	var l []api.Candidate
	for range n {
		c := candidate(between(r, 0, 5), between(r, 1, 4))
		for range between(r, 0, 4) {
			c.Points = append(c.Points, between(r, 0, most-1))
		}
		l = append(l, c)
	}
	return l
}

func TestKnotsAreWhatTheChapterSays(t *testing.T) {
	r := rand.New(rand.NewSource(12))
	for range 1500 {
		l, share := randomCandidates(r, between(r, 0, 30), between(r, 2, 60)), between(r, -1, 2)
		checkKnots(t, l, share, plainKnots(l, share)...)
		if len(l) > 1 {
			checkCollide(t, l[0].Points, l[1].Points, share, plainCollide(l[0], l[1], share))
		}
	}
}

// Knots takes any number of candidates.
func TestManyKnots(t *testing.T) {
	var l []api.Candidate
	for i := range 20000 {
		l = append(l, candidate(0, 1, 2*i, 2*i+1, 2*i+2))
	}
	checkSame(t, "one long knot", len(pattern.Knots(l, 0)), 1)
	checkSame(t, "many short ones", len(pattern.Knots(l, 1)), 20000)
}

// P6.10: Choose.

func checkChoose(t *testing.T, l []api.Candidate, share int, want ...int) {
	t.Helper()
	got, e := pattern.Choose(l, share)
	checkList(t, describe("Choose", l, share), got, e, want...)
}

// weighted makes candidates with some weights that all collide with the one before and the one after.
func weighted(weights ...int) []api.Candidate {
	var l []api.Candidate
	for i, w := range weights {
		l = append(l, candidate(0, w, i, i+1))
	}
	return l
}

func TestChoose(t *testing.T) {
	checkChoose(t, nil, 0)
	checkChoose(t, weighted(1), 0, 0)
	checkChoose(t, weighted(5, 6), 0, 1)
	checkChoose(t, weighted(6, 5), 0, 0)
	checkChoose(t, weighted(5, 6, 5), 0, 0, 2)
	checkChoose(t, weighted(5, 11, 5), 0, 1)
	checkChoose(t, weighted(5, 6, 5), 1, 0, 1, 2)
	checkChoose(t, weighted(5, 6, 5), -1, 0, 2)
	checkChoose(t, weighted(3, 1, 1, 3), 0, 0, 3)
	checkChoose(t, weighted(1, 3, 3, 1), 0, 0, 2)
	checkChoose(t, weighted(1, 3, 4, 1), 0, 0, 2)
	checkChoose(t, weighted(1, 4, 3, 1), 0, 1, 3)
	// Two knots, of which the indices are mixed.
	l := []api.Candidate{candidate(0, 5, 1), candidate(0, 5, 9), candidate(0, 6, 1), candidate(0, 4, 9), candidate(1, 2), candidate(0, 1, 1)}
	checkChoose(t, l, 0, 1, 2, 4)
}

// Of several sets of the same weight the one to which the least index belongs that belongs to only one of the two.
func TestChooseOfEqualWeights(t *testing.T) {
	checkChoose(t, weighted(5, 5), 0, 0)
	checkChoose(t, weighted(5, 10, 5), 0, 0, 2)
	checkChoose(t, weighted(1, 1, 1, 1), 0, 0, 2)
	checkChoose(t, weighted(2, 2, 1, 1), 0, 0, 2)
	checkChoose(t, weighted(1, 2, 2, 1), 0, 0, 2)
	checkChoose(t, weighted(1, 1, 1, 1, 1, 1), 0, 0, 2, 4)
	// 0 and 3, 1 and 2, each of one of these with each of the others: the first two.
	l := ofPoints([]int{1, 2}, []int{1, 3}, []int{2, 4}, []int{3, 4})
	checkChoose(t, l, 0, 0, 3)
	l[1].Weight, l[2].Weight = 3, 3
	l[0].Weight, l[3].Weight = 1, 5
	checkChoose(t, l, 0, 0, 3)
	// 1 alone weighs as much as 2 and 3, and 0 collides with all.
	l = ofPoints([]int{1, 2, 3}, []int{1, 4, 5}, []int{2, 4}, []int{3, 5})
	l[0].Weight, l[1].Weight = 1, 2
	checkChoose(t, l, 0, 1)
	// The set with fewer candidates, if it has the least index; the other one, if it has.
	checkChoose(t, []api.Candidate{candidate(0, 2, 1, 2), candidate(0, 1, 1), candidate(0, 1, 2)}, 0, 0)
	checkChoose(t, []api.Candidate{candidate(0, 1, 1), candidate(0, 2, 1, 2), candidate(0, 1, 2)}, 0, 0, 2)
	checkChoose(t, []api.Candidate{candidate(0, 1, 1), candidate(0, 1, 2), candidate(0, 2, 1, 2)}, 0, 0, 1)
}

// Weights are from 1 to MaxWeight.
func TestWeightsOfChoose(t *testing.T) {
	checkChoose(t, weighted(1, 1<<40), 0, 1)
	checkChoose(t, weighted(1<<40, 1<<40, 1), 0, 0, 2)
	many := slices.Repeat([]api.Candidate{candidate(0, api.MaxWeight)}, 256)
	l, e := pattern.Choose(many, 0)
	checkSame(t, "256 of the greatest weight", [2]any{len(l), e}, [2]any{256, api.OK})
	for _, n := range append(outside(1, api.MaxWeight)[:4], -1) {
		checkFails(t, n, api.ErrArg, results(pattern.Choose([]api.Candidate{candidate(0, n, 1)}, 0))...)
		checkFails(t, n, api.ErrArg, results(pattern.Choose(weighted(1, n, 1), 0))...)
		checkFails(t, n, api.ErrArg, results(pattern.Choose(append(ofPoints([]int{1}, []int{2}), candidate(0, n)), 5))...)
	}
}

// same makes n candidates of the weight 1 that all collide.
func same(n int) []api.Candidate { return slices.Repeat(ofPoints([]int{7}), n) }

func TestErrorsOfChoose(t *testing.T) {
	l := weighted(slices.Repeat([]int{1}, 256)...)
	alone := slices.Repeat(ofPoints(nil), 257)
	checkFails(t, "257 candidates", api.ErrLong, results(pattern.Choose(alone, 0))...)
	alone[3].Weight = 0
	checkFails(t, "257 candidates, of which one has no weight", api.ErrLong, results(pattern.Choose(alone, 0))...)
	checkFails(t, "256 candidates, of which one has no weight", api.ErrArg, results(pattern.Choose(alone[:256], 0))...)
	checkFails(t, "a long knot", api.ErrLong, results(pattern.Choose(l, 0))...)
	l[255].Weight = api.MaxWeight + 1
	checkFails(t, "a long knot, of which one is too heavy", api.ErrArg, results(pattern.Choose(l, 0))...)
}

// A knot may have 24 candidates, and not one more; other knots do not count.
func TestLongKnots(t *testing.T) {
	checkChoose(t, same(24), 0, 0)
	checkFails(t, "25 that collide", api.ErrLong, results(pattern.Choose(same(25), 0))...)
	path := weighted(slices.Repeat([]int{1}, 25)...)
	checkChoose(t, path[:24], 0, 0, 2, 4, 6, 8, 10, 12, 14, 16, 18, 20, 22)
	checkFails(t, "a path of 25", api.ErrLong, results(pattern.Choose(path, 0))...)
	path[24].Points = []int{100}
	checkChoose(t, path, 0, 0, 2, 4, 6, 8, 10, 12, 14, 16, 18, 20, 22, 24)
	path[0].Points, path[24].Points = []int{200}, []int{24, 200}
	checkFails(t, "a path of 25 in another order", api.ErrLong, results(pattern.Choose(path, 0))...)
	checkFails(t, "a long knot behind others", api.ErrLong, results(pattern.Choose(append(ofPoints([]int{1}, []int{2}, []int{1}), same(25)...), 0))...)
	// With a Share there is no knot.
	checkChoose(t, weighted(slices.Repeat([]int{1}, 30)...), 1, countTo(30)...)
}

func countTo(n int) []int {
	var l []int
	for i := range n {
		l = append(l, i)
	}
	return l
}

// Stars: one candidate that collides with all others, which do not collide.
func TestStars(t *testing.T) {
	for centre := range 24 {
		l := []api.Candidate{}
		for i := range 24 {
			l = append(l, candidate(0, 1, i))
		}
		l[centre] = candidate(0, 22, countTo(24)...)
		others := slices.DeleteFunc(countTo(24), func(i int) bool { return i == centre })
		checkChoose(t, l, 0, others...)
		l[centre].Weight = 24
		checkChoose(t, l, 0, centre)
		l[centre].Weight = 23
		if centre == 0 {
			others = []int{0}
		}
		checkChoose(t, l, 0, others...)
	}
}

// P6.10 and P6.15 (nothing better), for random candidates.
func TestChooseIsWhatTheChapterSays(t *testing.T) {
	r := rand.New(rand.NewSource(13))
	for range 600 {
		l, share := randomCandidates(r, between(r, 0, 12), between(r, 2, 30)), between(r, -1, 2)
		checkChoose(t, l, share, plainChoose(l, share)...)
		checkMaximal(t, l, share)
	}
}

// checkMaximal checks that no two of the chosen candidates collide, and that each other one collides with one of them.
func checkMaximal(t *testing.T, l []api.Candidate, share int) {
	t.Helper()
	chosen, e := pattern.Choose(l, share)
	checkSame(t, "error of Choose", e, api.OK)
	for i := range l {
		collides := slices.ContainsFunc(chosen, func(j int) bool { return i != j && pattern.Collide(l[i], l[j], share) })
		if collides == slices.Contains(chosen, i) {
			t.Errorf("%v, Share %d: %d does not fit to %v", l, share, i, chosen)
		}
	}
}

// heaviestOf returns the weight of the best set of at most 24 candidates; it goes through all sets.
func heaviestOf(l []api.Candidate, share int) int {
	rivals := make([]int, len(l))
	for i := range l {
		for j := range i {
			if plainCollide(l[i], l[j], share) {
				rivals[i] |= 1 << j
			}
		}
	}
	// Of each set without collisions: its weight; otherwise 0. Without its last candidate a set is a lesser number.
	weights := make([]int, 1<<len(l))
	best := 0
	for set := 1; set < len(weights); set++ {
		last := bits.Len(uint(set)) - 1
		rest := set &^ (1 << last)
		if rest&rivals[last] == 0 && (rest == 0 || weights[rest] > 0) {
			weights[set] = weights[rest] + l[last].Weight
			best = max(best, weights[set])
		}
	}
	return best
}

// P6.15: knots of 24 candidates, of which all sets are tried.
func TestNothingBetterInLongKnots(t *testing.T) {
	r := rand.New(rand.NewSource(14))
	for range 6 {
		// A path and some collisions more, so that it is one knot.
		l := weighted(slices.Repeat([]int{1}, 24)...)
		for i := range l {
			l[i].Weight = between(r, 1, 9)
			if chance(r, 3) {
				l[i].Points = append(l[i].Points, between(r, 0, 24))
			}
		}
		r.Shuffle(len(l), func(i, j int) { l[i], l[j] = l[j], l[i] })
		chosen, e := pattern.Choose(l, 0)
		weight := 0
		for _, i := range chosen {
			weight += l[i].Weight
		}
		checkSame(t, describe("the weight of", chosen, "of", l), [2]any{weight, e}, [2]any{heaviestOf(l, 0), api.OK})
		checkMaximal(t, l, 0)
	}
}

// Ten knots of 24 candidates, and one of 16: each a path, whose indices are mixed with those of the others.
func TestManyLongKnots(t *testing.T) {
	var l []api.Candidate
	var want []int
	for i := range 256 {
		knot, place := i%11, i/11
		if place >= 23 {
			knot = i % 3
		}
		l = append(l, candidate(0, 1, 1000*knot+place, 1000*knot+place+1))
		if place%2 == 0 {
			want = append(want, i)
		}
	}
	checkChoose(t, l, 0, want...)
}
