package sheet

import "klister/api"

// Check returns the error of a sheet.
func Check(s Sheet) api.Errno {
	h, e := shapeOf(s.Kind)
	if e != api.OK {
		return e
	}
	if len(s.Rows) > MaxRows || !every(s.Rows, h.isFull) {
		return api.ErrCount
	}
	if e := h.checkCells(s.Rows); e != api.OK {
		return e
	}
	for i := 1; i < len(s.Rows); i++ {
		if e := h.follows(s.Rows[i-1], s.Rows[i]); e != api.OK {
			return e
		}
	}
	return api.OK
}

// checkAll returns the error of several sheets, which have to be of one kind.
func checkAll(first Sheet, others ...Sheet) api.Errno {
	if e := Check(first); e != api.OK {
		return e
	}
	for _, s := range others {
		if e := Check(s); e != api.OK {
			return e
		}
	}
	if !every(others, func(s Sheet) bool { return s.Kind == first.Kind }) {
		return api.ErrConflict
	}
	return api.OK
}

// isFull reports whether a row has a cell for each column.
func (h shape) isFull(row []Cell) bool { return len(row) == len(h.columns) }

// checkCells returns the error of the cells of full rows.
func (h shape) checkCells(rows [][]Cell) api.Errno {
	if !h.have(rows, func(m manner, c Cell) bool { return m.ranged(c) }) {
		return api.ErrRange
	}
	if !h.have(rows, func(m manner, c Cell) bool { return m.formed(c) }) {
		return api.ErrForm
	}
	return api.OK
}

// have reports whether all cells of full rows are good in the manner of their
// columns.
func (h shape) have(rows [][]Cell, good func(manner, Cell) bool) bool {
	manners := mapped(h.columns, Column.manner)
	return every(rows, func(row []Cell) bool {
		for i := range len(row) {
			if !good(manners[i], row[i]) {
				return false
			}
		}
		return true
	})
}

// follows returns the error of a row that stands behind another one.
func (h shape) follows(before, row []Cell) api.Errno {
	switch c := h.key(before).compare(h.key(row)); {
	case c == 0:
		return api.ErrTwice
	case c > 0:
		return api.ErrOrder
	}
	return api.OK
}
