package detector

import (
	"cmp"
	"slices"

	"hodoscope/api"
)

// stack returns the indices of the planes of a face of a valid detector, by rising depths.
func stack(planes []api.Plane, face int) []int {
	var l []int
	for i, p := range planes {
		if p.Face == face {
			l = append(l, i)
		}
	}
	slices.SortFunc(l, func(i, j int) int { return cmp.Compare(planes[i].Depth, planes[j].Depth) })
	return l
}

// Stack returns the planes of a face by rising depths.
func Stack(d api.Detector, face int) []int {
	if !hasFrame(face) || !valid(d) {
		return nil
	}
	return stack(d.Planes, face)
}

// Thickness returns how much material the planes have from a depth to below another one.
func Thickness(d api.Detector, face, from, to int) int {
	if !hasFrame(face) || !valid(d) {
		return 0
	}
	total := 0
	for _, p := range d.Planes {
		if p.Face == face && (span{from, to}).has(p.Depth) {
			total += p.Thick
		}
	}
	return total
}

// overSlabs returns the sum of what part returns for the slabs of a face.
func overSlabs(slabs []api.Slab, face int, part func(s api.Slab) int) int {
	total := 0
	for _, s := range slabs {
		if s.Face == face {
			total += part(s)
		}
	}
	return total
}

// beyond returns the part of a depth that is above start.
func beyond(depth, start int) int {
	return max(depth-start, 0)
}

// bend returns what Bend does, for a valid detector and a depth from 0 to MaxDepth.
func bend(slabs []api.Slab, face, depth int) int {
	return overSlabs(slabs, face, func(s api.Slab) int {
		near, far := beyond(depth, s.From), beyond(depth, s.To)
		return s.B * (near*near - far*far)
	})
}

func inDepth(depth int) int {
	return min(max(depth, 0), api.MaxDepth)
}

// Field returns the field at a depth.
func Field(d api.Detector, face, depth int) int {
	if !hasFrame(face) || !valid(d) {
		return 0
	}
	depth = inDepth(depth)
	return overSlabs(d.Field, face, func(s api.Slab) int {
		if depths(s).has(depth) {
			return s.B
		}
		return 0
	})
}

// Integral returns the integral of the field up to a depth.
func Integral(d api.Detector, face, depth int) int {
	if !hasFrame(face) || !valid(d) {
		return 0
	}
	depth = inDepth(depth)
	return overSlabs(d.Field, face, func(s api.Slab) int { return s.B * (beyond(depth, s.From) - beyond(depth, s.To)) })
}

// Bend returns twice the double integral of the field up to a depth.
func Bend(d api.Detector, face, depth int) int {
	if !hasFrame(face) || !valid(d) {
		return 0
	}
	return bend(d.Field, face, inDepth(depth))
}
