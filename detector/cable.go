package detector

import (
	"cmp"
	"iter"
	"slices"

	"hodoscope/api"
)

// live yields the cables that are live at a time, and their indices.
func live(cables []api.Cable, time int) iter.Seq2[int, api.Cable] {
	return func(yield func(int, api.Cable) bool) {
		for i, c := range cables {
			if times(c).has(time) && !yield(i, c) {
				return
			}
		}
	}
}

// Live returns the cables that are live at a time.
func Live(d api.Detector, time int) []int {
	if !valid(d) {
		return nil
	}
	var l []int
	for i := range live(d.Cables, time) {
		l = append(l, i)
	}
	return l
}

// Times returns the times at which cables change.
func Times(d api.Detector) []int {
	if !valid(d) {
		return nil
	}
	var l []int
	for _, c := range d.Cables {
		l = append(l, c.From, c.To)
	}
	slices.Sort(l)
	return slices.Compact(l)
}

// Chips returns the chips that are connected at a time, by rising links, then slots.
func Chips(d api.Detector, time int) []api.Chip {
	if !valid(d) {
		return nil
	}
	var l []api.Chip
	for _, c := range live(d.Cables, time) {
		l = append(l, chipOf(c))
	}
	slices.SortFunc(l, func(a, b api.Chip) int {
		return cmp.Or(cmp.Compare(a.Link, b.Link), cmp.Compare(a.Slot, b.Slot))
	})
	return l
}

// cellOf returns the cell that has an address in a cable's block.
func cellOf(c api.Cable, addr int) (api.Cell, bool) {
	if !within(addr, 0, c.Wide*c.High-1) {
		return api.Cell{}, false
	}
	return api.Cell{Plane: c.Plane, Col: c.Col + addr/c.High, Row: c.Row + addr%c.High}, true
}

// addressOf returns the address of a cell in a cable's block. What is computed for a cell outside of the block may be an
// address of another cell, and may have left an int; so the cell that has the address decides.
func addressOf(c api.Cable, cell api.Cell) (int, bool) {
	addr := (cell.Col-c.Col)*c.High + cell.Row - c.Row
	if found, ok := cellOf(c, addr); !ok || found != cell {
		return 0, false
	}
	return addr, true
}

// Resolve returns the cell that an address of a chip has at a time.
func Resolve(d api.Detector, time int, c api.Chip, addr int) (api.Cell, api.Errno) {
	if !valid(d) {
		return api.Cell{}, api.ErrArg
	}
	for _, cable := range live(d.Cables, time) {
		if chipOf(cable) != c {
			continue
		}
		cell, ok := cellOf(cable, addr)
		if !ok {
			return api.Cell{}, api.ErrRange
		}
		return cell, api.OK
	}
	return api.Cell{}, api.ErrNone
}

// Where returns the chip and the address of a cell at a time.
func Where(d api.Detector, time int, c api.Cell) (api.Chip, int, api.Errno) {
	if !valid(d) {
		return api.Chip{}, 0, api.ErrArg
	}
	for _, cable := range live(d.Cables, time) {
		if addr, ok := addressOf(cable, c); ok {
			return chipOf(cable), addr, api.OK
		}
	}
	return api.Chip{}, 0, api.ErrNone
}
