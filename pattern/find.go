package pattern

import "hodoscope/api"

// tracks returns those of the candidates of a face that are chosen.
func tracks(d api.Detector, q api.Search, points []api.Point, face int) ([]api.Candidate, api.Errno) {
	candidates, e := Candidates(d, q, points, face)
	if e != api.OK {
		return nil, e
	}
	indices, e := Choose(candidates, q.Share)
	if e != api.OK {
		return nil, e
	}
	var l []api.Candidate
	for _, i := range indices {
		l = append(l, candidates[i])
	}
	return l, api.OK
}

// Find finds the points, and the tracks, of samples.
func Find(d api.Detector, s api.Snapshot, q api.Search, l []api.Sample) ([]api.Point, []api.Candidate, api.Errno) {
	if !validSamples(d, l) || !CheckSearch(q) {
		return nil, nil, api.ErrArg
	}
	d = bare(d)
	// Without an error, since a part of valid samples is valid.
	clusters, _ := Clusters(d, Alive(s, l))
	points, e := Points(d, s, clusters)
	if e != api.OK {
		return nil, nil, e
	}
	var found []api.Candidate
faces:
	for face := range api.Faces {
		var some []api.Candidate
		// More than MaxPoints points are not valid, which the first face reports.
		some, e = tracks(d, q, points, face)
		if e != api.OK {
			break faces
		}
		found = append(found, some...)
	}
	if e != api.OK {
		return nil, nil, e
	}
	return points, found, api.OK
}
