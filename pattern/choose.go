package pattern

import (
	"iter"
	"math/bits"
	"slices"

	"hodoscope/api"
)

// collisions yields the indices of each two candidates that collide, once, the lesser index first.
func collisions(l []api.Candidate, share int) iter.Seq2[int, int] {
	share = max(share, 0)
	return func(yield func(int, int) bool) {
		owners := map[int][]int{} // of each point: the candidates before that have it
		for j, c := range l {
			common := map[int]int{}
			for _, p := range different(c.Points) {
				for _, i := range owners[p] {
					// That is, with this point the common ones become more than share.
					if common[i] == share && !yield(i, j) {
						return
					}
					common[i]++
				}
				owners[p] = append(owners[p], j)
			}
		}
	}
}

// Collide reports whether two candidates collide.
func Collide(a, b api.Candidate, share int) bool {
	for range collisions([]api.Candidate{a, b}, share) {
		return true
	}
	return false
}

// Knots returns the knots of candidates.
func Knots(l []api.Candidate, share int) [][]int {
	return groups(len(l), collisions(l, share))
}

// heaviest returns, of at most MaxKnot candidates, the set that Choose returns, as bits.
func heaviest(l []api.Candidate, share int) uint32 {
	var rivals [api.MaxKnot]uint32 // of each candidate: those behind it that collide with it
	for i, j := range collisions(l, share) {
		rivals[i] |= 1 << j
	}
	var choose func(rest uint32) (set uint32, weight int)
	choose = func(rest uint32) (set uint32, weight int) {
		if rest == 0 {
			return 0, 0
		}
		i := bits.TrailingZeros32(rest)
		rest &^= 1 << i
		set, weight = choose(rest &^ rivals[i])
		set |= 1 << i
		weight += l[i].Weight
		// Without rivals a candidate is chosen in any case. To ask this keeps the ways few, since one without a candidate
		// is only gone where the one with it has at least one candidate less.
		if rest&rivals[i] == 0 {
			return set, weight
		}
		// Of equal weights the set with the candidate is taken: no other one of the rest has a lesser index.
		if other, more := choose(rest); more > weight {
			return other, more
		}
		return set, weight
	}
	set, _ := choose(1<<len(l) - 1)
	return set
}

// chosen returns the candidates of a knot that Choose returns.
func chosen(l []api.Candidate, knot []int, share int) []int {
	var own []api.Candidate
	for _, i := range knot {
		own = append(own, l[i])
	}
	var indices []int
	for set := heaviest(own, share); set != 0; set &= set - 1 {
		indices = append(indices, knot[bits.TrailingZeros32(set)])
	}
	return indices
}

// Choose returns the set of candidates of greatest weight.
func Choose(l []api.Candidate, share int) ([]int, api.Errno) {
	if len(l) > api.MaxCandidates {
		return nil, api.ErrLong
	}
	for _, c := range l {
		if !within(c.Weight, 1, api.MaxWeight) {
			return nil, api.ErrArg
		}
	}
	var indices []int
	// No candidate collides with one of another knot, so the best set has the best one of each knot.
	for _, knot := range Knots(l, share) {
		if len(knot) > api.MaxKnot {
			return nil, api.ErrLong
		}
		indices = append(indices, chosen(l, knot, share)...)
	}
	slices.Sort(indices)
	return indices, api.OK
}
