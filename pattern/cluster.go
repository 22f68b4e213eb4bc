package pattern

import (
	"iter"

	"hodoscope/api"
	"hodoscope/condition"
	"hodoscope/detector"
)

// directions are columns and rows from a cell to its neighbours. Those in the other two directions have the cell in one of
// these.
var directions = [2][2]int{{0, 1}, {1, 0}}

// isDead reports whether the cell of a sample is dead.
func isDead(s api.Snapshot, sample api.Sample) bool {
	key, ok := detector.Key(sample.Cell)
	return ok && condition.Value(s, api.CoDead, key, 0) != 0
}

// Alive returns the samples of cells that are not dead.
func Alive(s api.Snapshot, l []api.Sample) []api.Sample {
	var alive []api.Sample
	for _, sample := range l {
		if !isDead(s, sample) {
			alive = append(alive, sample)
		}
	}
	return alive
}

func isPlane(d api.Detector, i int) bool {
	return within(i, 0, len(d.Planes)-1)
}

// isMeasured reports whether a sample is one of a cell of a plane, which has the index i.
func isMeasured(p api.Plane, i int, s api.Sample) bool {
	_, _, e := detector.Centre(p, s.Cell.Col, s.Cell.Row)
	return s.Cell.Plane == i && e == api.OK && within(s.Adc, 1, api.MaxAdc)
}

// validSamples reports whether samples are valid for a detector.
func validSamples(d api.Detector, l []api.Sample) bool {
	if !isDetector(d) {
		return false
	}
	before := -1
	for _, s := range l {
		i := s.Cell.Plane
		if !isPlane(d, i) || !isMeasured(d.Planes[i], i, s) {
			return false
		}
		key, _ := detector.Key(s.Cell)
		if key <= before {
			return false
		}
		before = key
	}
	return true
}

// neighbours yields the indices of each two samples whose cells are neighbours.
func neighbours(l []api.Sample) iter.Seq2[int, int] {
	return func(yield func(int, int) bool) {
		index := make(map[api.Cell]int, len(l))
		for i, s := range l {
			index[s.Cell] = i
		}
		for i, s := range l {
			for _, way := range directions {
				next := api.Cell{Plane: s.Cell.Plane, Col: s.Cell.Col + way[0], Row: s.Cell.Row + way[1]}
				if j, there := index[next]; there && !yield(i, j) {
					return
				}
			}
		}
	}
}

// clusterOf returns the cluster of the samples with some indices.
func clusterOf(l []api.Sample, indices []int) api.Cluster {
	c := api.Cluster{Plane: l[indices[0]].Cell.Plane}
	for _, i := range indices {
		c.Charge += l[i].Adc
		c.Samples = append(c.Samples, l[i])
	}
	return c
}

// Clusters returns the clusters of samples.
func Clusters(d api.Detector, l []api.Sample) ([]api.Cluster, api.Errno) {
	if !validSamples(d, l) {
		return nil, api.ErrArg
	}
	var clusters []api.Cluster
	// Keys rise by planes first, so the order of the groups is that of the clusters.
	for _, indices := range groups(len(l), neighbours(l)) {
		clusters = append(clusters, clusterOf(l, indices))
	}
	return clusters, api.OK
}
