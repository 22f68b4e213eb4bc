package pattern_test

import (
	"testing"

	"hodoscope/api"
	"hodoscope/pattern"
)

// The rows of the chapter's table of examples.

func exampleSamples() []api.Sample {
	return append(samples(0, 1, 1, 4, 1, 2, 4, 2, 1, 8), sample(0, 3, 2, 1))
}

func examplePoints() []api.Point {
	return []api.Point{at(0, 0, 0), at(1, 5, 0), at(2, 10, 0), at(1, 30, 0)}
}

func TestExamplesOfClusters(t *testing.T) {
	l := exampleSamples()
	first := api.Cluster{Plane: 0, Charge: 16, Samples: l[:3]}
	checkClusters(t, deep(3), l, first, cluster(l[3]))
	checkPoint(t, deep(3), api.Snapshot{}, first, api.Point{Plane: 0, X: -20, Y: -23, VX: 4, VY: 4})
}

func TestExamplesOfSegments(t *testing.T) {
	d, q, l := deep(3), search(), examplePoints()
	s, e := pattern.Segments(d, q, l, 0)
	checkList(t, "Segments", s, e, segments(0, 1, 1, 2, 3, 2)...)
	n, e := pattern.Lengths(d, q, l, 0)
	checkList(t, "Lengths", n, e, 1, 2, 1)
	n, e = pattern.Evolve(d, q, l, 0, 0)
	checkList(t, "Evolve with 0 steps", n, e, 1, 1, 1)
	n, e = pattern.Evolve(d, q, l, 0, 1)
	checkList(t, "Evolve with 1 step", n, e, 1, 2, 1)
	x, y, ok := pattern.Bends(d, l[0], l[1], l[2])
	checkSame(t, "Bends", [3]any{x, y, ok}, [3]any{0, 0, true})
}

func TestExamplesOfCandidates(t *testing.T) {
	l, e := pattern.Candidates(deep(3), search(), examplePoints(), 0)
	checkCandidates(t, "Candidates", l, e, candidate(0, 3000, 0, 1, 2))
	n, e := pattern.Choose(l, 0)
	checkList(t, "Choose", n, e, 0)
	n, e = pattern.Choose([]api.Candidate{candidate(0, 5, 1, 2), candidate(0, 6, 2, 3), candidate(0, 5, 3, 4)}, 0)
	checkList(t, "Choose of three", n, e, 0, 2)
}
