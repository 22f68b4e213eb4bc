package detector

import (
	"slices"

	"hodoscope/api"
)

func isLetter(c byte) bool {
	return 'a' <= c && c <= 'z'
}

func isDigit(c byte) bool {
	return '0' <= c && c <= '9'
}

func isName(s string) bool {
	if len(s) < 1 || len(s) > api.MaxName || !isLetter(s[0]) {
		return false
	}
	for i := range len(s) {
		if !isLetter(s[i]) && !isDigit(s[i]) && s[i] != '-' {
			return false
		}
	}
	return true
}

func validPlane(p api.Plane) bool {
	if !within(p.Cols, 1, api.MaxSide) || !within(p.Rows, 1, api.MaxSide) {
		return false
	}
	if !within(p.HalfX, 1, api.MaxHalf) || !within(p.HalfY, 1, api.MaxHalf) {
		return false
	}
	if p.Face == api.Calorimeter {
		return p.Depth == 0 && p.Thick == 0
	}
	return hasFrame(p.Face) && within(p.Depth, 1, api.MaxDepth) && within(p.Thick, 0, api.MaxThick)
}

func validSlab(s api.Slab) bool {
	return hasFrame(s.Face) && depths(s).in(api.MaxDepth) && within(s.B, -api.MaxField, api.MaxField)
}

func validChip(c api.Chip) bool {
	return within(c.Link, 0, api.MaxLinks-1) && within(c.Slot, 0, api.MaxSlots-1)
}

// validBlock reports whether the cells that a cable's chip reads are cells of the plane, and few enough.
func validBlock(c api.Cable, p api.Plane) bool {
	return columns(c).in(p.Cols) && rows(c).in(p.Rows) && c.Wide*c.High <= api.MaxChip
}

// collide reports whether, at some time, two cables have the same chip or a common cell. It takes pointers because Check
// asks it of all pairs of cables, and copies of them would double its time.
func collide(a, b *api.Cable) bool {
	sameChip := chipOf(*a) == chipOf(*b)
	if !sameChip && a.Plane != b.Plane || !times(*a).meets(times(*b)) {
		return false
	}
	return sameChip || columns(*a).meets(columns(*b)) && rows(*a).meets(rows(*b))
}

// wholeFault returns the fault of the name, or of the lengths of the lists.
func wholeFault(d api.Detector) api.Errno {
	switch {
	case !isName(d.Name) || len(d.Planes) == 0:
		return api.ErrArg
	case len(d.Planes) > api.MaxPlanes || len(d.Field) > api.MaxSlabs || len(d.Cables) > api.MaxCables:
		return api.ErrLong
	}
	return api.OK
}

func planeFault(planes []api.Plane, i int) api.Errno {
	p := planes[i]
	if !validPlane(p) {
		return api.ErrRange
	}
	if slices.ContainsFunc(planes[:i], func(o api.Plane) bool { return o.Face == p.Face && o.Depth == p.Depth }) {
		return api.ErrThere
	}
	return api.OK
}

func slabFault(slabs []api.Slab, i int) api.Errno {
	s := slabs[i]
	if !validSlab(s) {
		return api.ErrRange
	}
	if slices.ContainsFunc(slabs[:i], func(o api.Slab) bool { return o.Face == s.Face && depths(o).meets(depths(s)) }) {
		return api.ErrThere
	}
	return api.OK
}

func cableFault(planes []api.Plane, cables []api.Cable, i int) api.Errno {
	c := cables[i]
	switch {
	case !validChip(chipOf(c)) || !times(c).in(api.MaxTime):
		return api.ErrRange
	case !within(c.Plane, 0, len(planes)-1):
		return api.ErrNone
	case !validBlock(c, planes[c.Plane]):
		return api.ErrRange
	}
	for j := range i {
		if collide(&cables[j], &cables[i]) {
			return api.ErrThere
		}
	}
	return api.OK
}

// firstFault returns which of n elements is the first that has a fault.
func firstFault(n int, fault func(i int) api.Errno) (int, api.Errno) {
	for i := range n {
		if e := fault(i); e != api.OK {
			return i, e
		}
	}
	return 0, api.OK
}

// Check returns the first fault of a detector: of the whole (part 0), of a plane (1), of a slab (2), of a cable (3).
func Check(d api.Detector) (part, index int, e api.Errno) {
	if e := wholeFault(d); e != api.OK {
		return 0, 0, e
	}
	if i, e := firstFault(len(d.Planes), func(i int) api.Errno { return planeFault(d.Planes, i) }); e != api.OK {
		return 1, i, e
	}
	if i, e := firstFault(len(d.Field), func(i int) api.Errno { return slabFault(d.Field, i) }); e != api.OK {
		return 2, i, e
	}
	if i, e := firstFault(len(d.Cables), func(i int) api.Errno { return cableFault(d.Planes, d.Cables, i) }); e != api.OK {
		return 3, i, e
	}
	return 0, 0, api.OK
}

func valid(d api.Detector) bool {
	_, _, e := Check(d)
	return e == api.OK
}
