package readout

import (
	"hodoscope/api"
	"hodoscope/detector"
)

func isDetector(d api.Detector) bool {
	_, _, e := detector.Check(d)
	return e == api.OK
}

// hitsOf returns the hits that samples are, for each of the wires; false if the samples are not valid. Within a wire's block
// addresses rise as keys do, so the hits are in their order.
func hitsOf(wires []wire, samples []api.Sample) ([][]api.Raw, bool) {
	hits := make([][]api.Raw, len(wires))
	before := -1
	for _, s := range samples {
		key, ok := detector.Key(s.Cell)
		if !ok || key <= before || !isSignal(s.Adc) {
			return nil, false
		}
		i, addr, ok := find(wires, s.Cell)
		if !ok {
			return nil, false
		}
		hits[i] = append(hits[i], api.Raw{Addr: addr, Adc: s.Adc})
		before = key
	}
	return hits, true
}

// split returns the wires of an event and, for each of them, its hits; false if the event is not valid.
func split(d api.Detector, v api.Event) ([]wire, [][]api.Raw, bool) {
	if !isDetector(d) || !isNumber(v.Number) || !isTime(v.Time) {
		return nil, nil, false
	}
	wires := wiresAt(d, v.Time)
	hits, ok := hitsOf(wires, v.Samples)
	return wires, hits, ok
}

// Valid reports whether an event is valid for a detector.
func Valid(d api.Detector, v api.Event) bool {
	_, _, ok := split(d, v)
	return ok
}

// Spread returns the frames of an event.
func Spread(d api.Detector, v api.Event) ([]api.Frame, api.Errno) {
	wires, hits, ok := split(d, v)
	if !ok {
		return nil, api.ErrArg
	}
	var l []api.Frame
	for i, w := range wires {
		l = append(l, api.Frame{Link: w.chip.Link, Slot: w.chip.Slot, Event: v.Number, Time: v.Time, L: hits[i]})
	}
	return l, api.OK
}
