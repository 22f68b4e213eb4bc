package pattern

import (
	"slices"

	"hodoscope/api"
)

// maxSteps is how many steps the automaton takes at most; no chain has as many segments.
const maxSteps = 64

// web is the segments of a face (by their indices), and which of them are inside of which.
type web struct {
	view
	segments []api.Segment
	before   [][]int // of each segment: those that are inside of it, rising
	after    [][]int // of each segment: those that it is inside of, rising
}

// weave returns the web of a face.
func weave(d api.Detector, q api.Search, l []api.Point, face int) (*web, api.Errno) {
	v, segments, e := look(d, q, l, face)
	if e != api.OK {
		return nil, e
	}
	w := &web{view: v, segments: segments}
	w.before = make([][]int, len(segments))
	w.after = make([][]int, len(segments))
	ends := make([][]int, len(l)) // of each point: the segments that end there
	for i, s := range segments {
		ends[s.B] = append(ends[s.B], i)
	}
	for j, t := range segments {
		for _, i := range ends[t.A] {
			if w.inside(segments[i], t) {
				w.before[j] = append(w.before[j], i)
				w.after[i] = append(w.after[i], j)
			}
		}
	}
	return w, api.OK
}

// starts returns the segments of which none is inside.
func (w *web) starts() []int {
	var l []int
	for i := range w.segments {
		if len(w.before[i]) == 0 {
			l = append(l, i)
		}
	}
	return l
}

// longest returns, for each segment, how many segments the longest row has that begins with it, and in which each one is
// followed by one of its list in next.
func longest(next [][]int) []int {
	lengths := make([]int, len(next))
	var measure func(i int) int
	measure = func(i int) int {
		if lengths[i] > 0 {
			return lengths[i]
		}
		length := 1
		for _, j := range next[i] {
			length = max(length, 1+measure(j))
		}
		lengths[i] = length
		return length
	}
	for i := range next {
		measure(i)
	}
	return lengths
}

// Lengths returns the lengths of the longest chains that end with each segment.
func Lengths(d api.Detector, q api.Search, l []api.Point, face int) ([]int, api.Errno) {
	w, e := weave(d, q, l, face)
	if e != api.OK {
		return nil, e
	}
	return longest(w.before), api.OK
}

// step returns the states that follow after some states.
func (w *web) step(states []int) []int {
	next := slices.Clone(states)
	for i, before := range w.before {
		if slices.ContainsFunc(before, func(j int) bool { return states[j] == states[i] }) {
			next[i]++
		}
	}
	return next
}

// Evolve returns the states of the segments after some steps of the automaton.
func Evolve(d api.Detector, q api.Search, l []api.Point, face, steps int) ([]int, api.Errno) {
	w, e := weave(d, q, l, face)
	if e != api.OK {
		return nil, e
	}
	states := slices.Repeat([]int{1}, len(w.segments))
	for range min(max(steps, 0), maxSteps) {
		states = w.step(states)
	}
	return states, api.OK
}
