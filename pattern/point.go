package pattern

import (
	"hodoscope/api"
	"hodoscope/condition"
	"hodoscope/detector"
)

// maxSamples is how many samples a cluster may have that has a point.
const maxSamples = 65536

// validCluster reports whether a cluster has a point, or would have one if its plane had a frame.
func validCluster(d api.Detector, c api.Cluster) bool {
	if !isPlane(d, c.Plane) || !within(len(c.Samples), 1, maxSamples) {
		return false
	}
	charge := 0
	for _, s := range c.Samples {
		if !isMeasured(d.Planes[c.Plane], c.Plane, s) {
			return false
		}
		charge += s.Adc
	}
	return c.Charge == charge
}

// roundDown returns the quotient of n and a positive number, rounded down; a division alone would round towards 0.
func roundDown(n, by int) int {
	q := n / by
	if n%by < 0 {
		q--
	}
	return q
}

// variance returns that of a coordinate which is the mean of n different ones, of cells with the same half width.
func variance(half, n int) int {
	return max(half*half/(3*n), 1)
}

// pointOf returns the point of a valid cluster of a plane that has a frame, without its shifts.
func pointOf(plane api.Plane, c api.Cluster) api.Point {
	var x, y int
	var cols, rows []int
	for _, s := range c.Samples {
		// Without an error, since the cell is one of the plane's.
		centreX, centreY, _ := detector.Centre(plane, s.Cell.Col, s.Cell.Row)
		x += s.Adc * centreX
		y += s.Adc * centreY
		cols = append(cols, s.Cell.Col)
		rows = append(rows, s.Cell.Row)
	}
	return api.Point{
		Plane: c.Plane,
		X:     roundDown(x, c.Charge),
		Y:     roundDown(y, c.Charge),
		VX:    variance(plane.HalfX, len(different(cols))),
		VY:    variance(plane.HalfY, len(different(rows))),
	}
}

// shift returns a shift of a plane; false if it is too large.
func shift(s api.Snapshot, kind, plane int) (int, bool) {
	n := condition.Value(s, kind, plane, 0)
	return n, within(n, -api.MaxValue, api.MaxValue)
}

// Points returns the points of clusters.
func Points(d api.Detector, s api.Snapshot, l []api.Cluster) ([]api.Point, api.Errno) {
	if !isDetector(d) {
		return nil, api.ErrArg
	}
	var points []api.Point
	for _, c := range l {
		if !validCluster(d, c) {
			return nil, api.ErrArg
		}
		plane := d.Planes[c.Plane]
		if plane.Face == api.Calorimeter {
			continue
		}
		x, okX := shift(s, api.CoShiftX, c.Plane)
		y, okY := shift(s, api.CoShiftY, c.Plane)
		if !okX || !okY {
			return nil, api.ErrArg
		}
		p := pointOf(plane, c)
		p.X += x
		p.Y += y
		points = append(points, p)
	}
	return points, api.OK
}

// validPoint reports whether a point is valid for a valid detector.
func validPoint(d api.Detector, p api.Point) bool {
	return isPlane(d, p.Plane) && d.Planes[p.Plane].Face != api.Calorimeter &&
		within(p.X, -api.MaxPlace, api.MaxPlace) && within(p.Y, -api.MaxPlace, api.MaxPlace) &&
		within(p.VX, 1, api.MaxVariance) && within(p.VY, 1, api.MaxVariance)
}

// CheckPoints reports whether points are valid for a detector.
func CheckPoints(d api.Detector, l []api.Point) bool {
	if len(l) > api.MaxPoints || !isDetector(d) {
		return false
	}
	for _, p := range l {
		if !validPoint(d, p) {
			return false
		}
	}
	return true
}
