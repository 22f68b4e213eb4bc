package readout

import (
	"cmp"
	"slices"

	"hodoscope/api"
	"hodoscope/detector"
)

// wire is a cable that is live at a time. It is kept as a detector that has nothing but this cable and its plane: layer 3
// checks all of a detector whenever it is asked for a cell, which takes too long for each cell of a large one.
type wire struct {
	chip  api.Chip
	time  int
	plane int // its index in the whole detector; it is 0 in the own one
	own   api.Detector
}

func wireOf(d api.Detector, c api.Cable, time int) wire {
	w := wire{chip: api.Chip{Link: c.Link, Slot: c.Slot}, time: time, plane: c.Plane}
	plane := d.Planes[c.Plane]
	c.Plane = 0
	w.own = api.Detector{Name: d.Name, Planes: []api.Plane{plane}, Cables: []api.Cable{c}}
	return w
}

// wiresAt returns the cables of a valid detector that are live at a time, in the order of the chips of an event.
func wiresAt(d api.Detector, time int) []wire {
	var l []wire
	for _, i := range detector.Live(d, time) {
		l = append(l, wireOf(d, d.Cables[i], time))
	}
	slices.SortFunc(l, func(a, b wire) int {
		return cmp.Or(cmp.Compare(a.chip.Link, b.chip.Link), cmp.Compare(a.chip.Slot, b.chip.Slot))
	})
	return l
}

// cell returns the cell that an address has.
func (w wire) cell(addr int) (api.Cell, bool) {
	c, e := detector.Resolve(w.own, w.time, w.chip, addr)
	if e != api.OK {
		return api.Cell{}, false
	}
	c.Plane = w.plane
	return c, true
}

// address returns the address that a cell has, if the chip reads it.
func (w wire) address(c api.Cell) (int, bool) {
	if c.Plane != w.plane {
		return 0, false
	}
	c.Plane = 0
	_, addr, e := detector.Where(w.own, w.time, c)
	return addr, e == api.OK
}

// samples returns what was measured in the cells of hits; false if one of the hits has no cell.
func (w wire) samples(hits []api.Raw) ([]api.Sample, bool) {
	var l []api.Sample
	for _, h := range hits {
		c, ok := w.cell(h.Addr)
		if !ok {
			return nil, false
		}
		l = append(l, api.Sample{Cell: c, Adc: h.Adc})
	}
	return l, true
}

// find returns which of some wires reads a cell, and the cell's address there.
func find(wires []wire, c api.Cell) (i, addr int, ok bool) {
	for i, w := range wires {
		if addr, ok := w.address(c); ok {
			return i, addr, true
		}
	}
	return 0, 0, false
}
