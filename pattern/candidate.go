package pattern

import (
	"cmp"
	"iter"
	"slices"

	"hodoscope/api"
)

// next returns the segments that may follow a chain: after no segments, those that begin one.
func (w *web) next(chain []int) []int {
	if len(chain) == 0 {
		return w.starts()
	}
	return w.after[chain[len(chain)-1]]
}

// chains yields the maximal chains with at least Least points that begin with a chain (which may be empty), in the order of
// their points. Ahead says how many segments the longest chain has that begins with a segment. By this each way that is
// gone leads to a chain that is yielded; the chains that are too short can be too many to go through.
func (w *web) chains(chain, ahead []int) iter.Seq[[]int] {
	return func(yield func([]int) bool) {
		next := w.next(chain)
		if len(next) == 0 && len(chain) > 0 {
			yield(chain)
			return
		}
		for _, i := range next {
			if len(chain)+ahead[i]+1 < w.search.Least {
				continue
			}
			for longer := range w.chains(append(slices.Clip(chain), i), ahead) {
				if !yield(longer) {
					return
				}
			}
		}
	}
}

// candidate returns the candidate of a chain.
func (w *web) candidate(chain []int) api.Candidate {
	points := []int{w.segments[chain[0]].A}
	for _, i := range chain {
		points = append(points, w.segments[i].B)
	}
	weight := w.search.Reward * len(points)
	for i := range len(points) - 2 {
		x, y := w.bends(points[i], points[i+1], points[i+2])
		weight -= x + y
	}
	return api.Candidate{Face: w.face, Points: points, Weight: max(weight, 1)}
}

// Candidates returns the candidates of all maximal chains.
func Candidates(d api.Detector, q api.Search, l []api.Point, face int) ([]api.Candidate, api.Errno) {
	w, e := weave(d, q, l, face)
	if e != api.OK {
		return nil, e
	}
	var candidates []api.Candidate
	for chain := range w.chains(nil, longest(w.after)) {
		if len(candidates) == api.MaxCandidates {
			return nil, api.ErrLong
		}
		candidates = append(candidates, w.candidate(chain))
	}
	return candidates, api.OK
}

// order says which of two segments the filter prefers to follow a segment s: the one that ends in the nearer plane, then
// that with the least sum of both bends.
func (w *web) order(s api.Segment) func(i, j int) int {
	bends := func(i int) int {
		x, y := w.bends(s.A, s.B, w.segments[i].B)
		return x + y
	}
	return func(i, j int) int {
		near, far := w.levels[w.segments[i].B], w.levels[w.segments[j].B]
		return cmp.Or(cmp.Compare(near, far), cmp.Compare(bends(i), bends(j)))
	}
}

// follow returns the chain that the filter makes of its first segment.
func (w *web) follow(first int) []int {
	chain := []int{first}
	for next := w.next(chain); len(next) > 0; next = w.next(chain) {
		last := w.segments[chain[len(chain)-1]]
		// Of those that it likes as much it takes the first one, whose end has the least index.
		chain = append(chain, slices.MinFunc(next, w.order(last)))
	}
	return chain
}

// Follow returns the candidates that a filter finds.
func Follow(d api.Detector, q api.Search, l []api.Point, face int) ([]api.Candidate, api.Errno) {
	w, e := weave(d, q, l, face)
	if e != api.OK {
		return nil, e
	}
	var candidates []api.Candidate
	for _, first := range w.starts() {
		c := w.candidate(w.follow(first))
		if len(c.Points) < q.Least {
			continue
		}
		if len(candidates) == api.MaxCandidates {
			return nil, api.ErrLong
		}
		candidates = append(candidates, c)
	}
	return candidates, api.OK
}
