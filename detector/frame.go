package detector

import "hodoscope/api"

// frame says to which global axes the depth and the coordinates of a face belong (0 for X, 1 for Y, 2 for Z), and with
// which signs.
type frame struct{ axis, sign [3]int }

var frames = [api.Faces]frame{
	{axis: [3]int{0, 1, 2}, sign: [3]int{1, 1, 1}},
	{axis: [3]int{1, 0, 2}, sign: [3]int{1, -1, 1}},
	{axis: [3]int{0, 1, 2}, sign: [3]int{-1, -1, 1}},
	{axis: [3]int{1, 0, 2}, sign: [3]int{-1, 1, 1}},
	{axis: [3]int{2, 0, 1}, sign: [3]int{1, 1, 1}},
	{axis: [3]int{2, 1, 0}, sign: [3]int{-1, 1, 1}},
}

// Axes returns the frame of a face.
func Axes(face int) (axis, sign [3]int, e api.Errno) {
	if !hasFrame(face) {
		return axis, sign, api.ErrNone
	}
	return frames[face].axis, frames[face].sign, api.OK
}

// placeFault returns what is wrong with a face, or with the numbers of a place.
func placeFault(face int, place [3]int) api.Errno {
	if !hasFrame(face) {
		return api.ErrNone
	}
	for _, n := range place {
		if !within(n, -api.MaxReach, api.MaxReach) {
			return api.ErrRange
		}
	}
	return api.OK
}

// Global returns X, Y and Z of a place with the depth, x and y of p.
func Global(face int, p [3]int) ([3]int, api.Errno) {
	if e := placeFault(face, p); e != api.OK {
		return [3]int{}, e
	}
	var g [3]int
	for i, axis := range frames[face].axis {
		g[axis] = frames[face].sign[i] * p[i]
	}
	return g, api.OK
}

// Local returns the depth, x and y of a place with X, Y and Z of g.
func Local(face int, g [3]int) ([3]int, api.Errno) {
	if e := placeFault(face, g); e != api.OK {
		return [3]int{}, e
	}
	var p [3]int
	for i, axis := range frames[face].axis {
		p[i] = frames[face].sign[i] * g[axis]
	}
	return p, api.OK
}
