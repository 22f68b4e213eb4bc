package detector

import "hodoscope/api"

// Centre returns the centre of a cell.
func Centre(p api.Plane, col, row int) (x, y int, e api.Errno) {
	if !validPlane(p) {
		return 0, 0, api.ErrArg
	}
	if !within(col, 0, p.Cols-1) || !within(row, 0, p.Rows-1) {
		return 0, 0, api.ErrRange
	}
	return (2*col + 1 - p.Cols) * p.HalfX, (2*row + 1 - p.Rows) * p.HalfY, api.OK
}

// numberAt returns which of n cells side by side, each of them 2 half wide and all of them centred on 0, contains x.
func numberAt(x, n, half int) (int, bool) {
	if !within(x, -n*half, n*half-1) {
		return 0, false
	}
	return (x + n*half) / (2 * half), true
}

// At returns the cell that contains a place.
func At(p api.Plane, x, y int) (col, row int, ok bool) {
	if !validPlane(p) {
		return 0, 0, false
	}
	col, inX := numberAt(x, p.Cols, p.HalfX)
	row, inY := numberAt(y, p.Rows, p.HalfY)
	if !inX || !inY {
		return 0, 0, false
	}
	return col, row, true
}

// Key returns the key of a cell.
func Key(c api.Cell) (int, bool) {
	if !within(c.Plane, 0, api.MaxPlanes-1) || !within(c.Col, 0, api.MaxSide-1) || !within(c.Row, 0, api.MaxSide-1) {
		return 0, false
	}
	return (c.Plane*api.MaxSide+c.Col)*api.MaxSide + c.Row, true
}

// Keyed returns the cell that has a key.
func Keyed(key int) (api.Cell, bool) {
	if !within(key, 0, api.MaxPlanes*api.MaxSide*api.MaxSide-1) {
		return api.Cell{}, false
	}
	return api.Cell{Plane: key / api.MaxSide / api.MaxSide, Col: key / api.MaxSide % api.MaxSide, Row: key % api.MaxSide}, true
}
