package pattern

import (
	"iter"
	"slices"

	"hodoscope/api"
	"hodoscope/detector"
)

// unit is the slope, and the bend, that stands for 1.
const unit = 1024

// CheckSearch reports whether a search is valid.
func CheckSearch(q api.Search) bool {
	return within(q.Skip, 0, api.MaxSkip) &&
		within(q.Slope, 0, api.MaxAngle) && within(q.Kink, 0, api.MaxAngle) &&
		within(q.Least, 2, api.MaxPlanes) && within(q.Reward, 1, api.MaxReward) &&
		within(q.Share, 0, api.MaxPlanes)
}

// bend returns the bend of three coordinates, with the difference u of the depths of the first two, and v of the last two.
func bend(a, b, c, u, v int) int {
	n := (c-b)*u - (b-a)*v
	return max(n, -n) * unit / (u * v)
}

// Bends returns the bends of three points.
func Bends(d api.Detector, a, b, c api.Point) (x, y int, ok bool) {
	if !CheckPoints(d, []api.Point{a, b, c}) {
		return 0, 0, false
	}
	first, second, third := d.Planes[a.Plane], d.Planes[b.Plane], d.Planes[c.Plane]
	if first.Face != second.Face || second.Face != third.Face {
		return 0, 0, false
	}
	u, v := second.Depth-first.Depth, third.Depth-second.Depth
	if u <= 0 || v <= 0 {
		return 0, 0, false
	}
	return bend(a.X, b.X, c.X, u, v), bend(a.Y, b.Y, c.Y, u, v), true
}

// view is what a search sees of a face.
type view struct {
	search api.Search
	face   int
	points []api.Point
	depths []int // of each point: that of its plane
	levels []int // of each point: the place of its plane in the face's Stack, -1 for a point of another face
}

// viewOf returns the view of a face from 0 to 5, of a valid search and points that are valid for the detector.
func viewOf(d api.Detector, q api.Search, l []api.Point, face int) view {
	v := view{search: q, face: face, points: l}
	stack := detector.Stack(bare(d), face)
	for _, p := range l {
		v.depths = append(v.depths, d.Planes[p.Plane].Depth)
		v.levels = append(v.levels, slices.Index(stack, p.Plane))
	}
	return v
}

// join reports whether two points are a segment.
func (v *view) join(s api.Segment) bool {
	if v.levels[s.A] < 0 || !within(v.levels[s.B]-v.levels[s.A], 1, v.search.Skip+1) {
		return false
	}
	a, b := v.points[s.A], v.points[s.B]
	reach := v.search.Slope * (v.depths[s.B] - v.depths[s.A])
	return within((b.X-a.X)*unit, -reach, reach) && within((b.Y-a.Y)*unit, -reach, reach)
}

// joined yields the segments by rising A, then B.
func (v *view) joined() iter.Seq[api.Segment] {
	return func(yield func(api.Segment) bool) {
		for a := range v.points {
			for b := range v.points {
				if s := (api.Segment{A: a, B: b}); v.join(s) && !yield(s) {
					return
				}
			}
		}
	}
}

// bends returns the bends of three points that two segments have.
func (v *view) bends(a, b, c int) (x, y int) {
	first, second, third := v.points[a], v.points[b], v.points[c]
	near, far := v.depths[b]-v.depths[a], v.depths[c]-v.depths[b]
	return bend(first.X, second.X, third.X, near, far), bend(first.Y, second.Y, third.Y, near, far)
}

// inside reports whether a segment is inside of another one, which begins where it ends.
func (v *view) inside(s, t api.Segment) bool {
	x, y := v.bends(s.A, s.B, t.B)
	return max(x, y) <= v.search.Kink
}

// look returns the view of a face, and its segments.
func look(d api.Detector, q api.Search, l []api.Point, face int) (view, []api.Segment, api.Errno) {
	switch {
	case !CheckPoints(d, l) || !CheckSearch(q):
		return view{}, nil, api.ErrArg
	case !within(face, 0, api.Faces-1):
		return view{}, nil, api.ErrNone
	}
	v := viewOf(d, q, l, face)
	var segments []api.Segment
	for s := range v.joined() {
		if len(segments) == api.MaxSegments {
			return view{}, nil, api.ErrLong
		}
		segments = append(segments, s)
	}
	return v, segments, api.OK
}

// Segments returns the segments of a face.
func Segments(d api.Detector, q api.Search, l []api.Point, face int) ([]api.Segment, api.Errno) {
	_, segments, e := look(d, q, l, face)
	return segments, e
}

// Inside reports whether a segment is inside of another one.
func Inside(d api.Detector, q api.Search, l []api.Point, s, t api.Segment) bool {
	if !CheckPoints(d, l) || !CheckSearch(q) || s.B != t.A {
		return false
	}
	for _, i := range []int{s.A, s.B, t.B} {
		if !within(i, 0, len(l)-1) {
			return false
		}
	}
	v := viewOf(d, q, l, d.Planes[l[s.A].Plane].Face)
	return v.join(s) && v.join(t) && v.inside(s, t)
}
