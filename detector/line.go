package detector

import "hodoscope/api"

// slopeBits is how many bits of a slope stand for the part of 1.
const slopeBits = 20

func validLine(l api.Line) bool {
	return within(l.X0, -api.MaxReach, api.MaxReach) && within(l.Y0, -api.MaxReach, api.MaxReach) &&
		within(l.X1, -api.MaxSlope, api.MaxSlope) && within(l.Y1, -api.MaxSlope, api.MaxSlope) &&
		within(l.K, -api.MaxCurve, api.MaxCurve)
}

// lineFault returns what is wrong with a detector, a face, or a line.
func lineFault(d api.Detector, face int, l api.Line) api.Errno {
	switch {
	case !valid(d):
		return api.ErrArg
	case !hasFrame(face):
		return api.ErrNone
	case !validLine(l):
		return api.ErrRange
	}
	return api.OK
}

// position returns the position of a valid line at a depth from 0 to MaxDepth.
func position(slabs []api.Slab, face int, l api.Line, depth int) (x, y int) {
	// A shift to the right rounds down, as the position does; a division would round towards 0.
	x = l.X0 + (l.X1*depth+l.K*bend(slabs, face, depth))>>slopeBits
	y = l.Y0 + (l.Y1*depth)>>slopeBits
	return x, y
}

// Cross returns the position of a line at a depth.
func Cross(d api.Detector, face int, l api.Line, depth int) (x, y int, e api.Errno) {
	if e := lineFault(d, face, l); e != api.OK {
		return 0, 0, e
	}
	if !within(depth, 0, api.MaxDepth) {
		return 0, 0, api.ErrRange
	}
	x, y = position(d.Field, face, l, depth)
	return x, y, api.OK
}

// Swim returns the cells that a line crosses, by rising depths.
func Swim(d api.Detector, face int, l api.Line) ([]api.Cell, api.Errno) {
	if e := lineFault(d, face, l); e != api.OK {
		return nil, e
	}
	var cells []api.Cell
	for _, i := range stack(d.Planes, face) {
		p := d.Planes[i]
		x, y := position(d.Field, face, l, p.Depth)
		if col, row, ok := At(p, x, y); ok {
			cells = append(cells, api.Cell{Plane: i, Col: col, Row: row})
		}
	}
	return cells, api.OK
}
