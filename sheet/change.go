package sheet

import (
	"slices"

	"klister/api"
)

// CheckChanges returns the error of changes.
func CheckChanges(k Kind, l []Change) api.Errno {
	h, e := shapeOf(k)
	if e != api.OK {
		return e
	}
	if len(l) > 2*MaxRows || !every(l, h.isThere) {
		return api.ErrCount
	}
	if e := h.checkCells(slices.Concat(mapped(l, Change.rows)...)); e != api.OK {
		return e
	}
	if !every(l, h.isOfOneKey) {
		return api.ErrConflict
	}
	for i := 1; i < len(l); i++ {
		if h.follows(l[i-1].rows()[0], l[i].rows()[0]) != api.OK {
			return api.ErrOrder
		}
	}
	return api.OK
}

// rows returns the rows of a change that are there.
func (c Change) rows() [][]Cell {
	var rows [][]Cell
	for _, row := range [...][]Cell{c.Before, c.After} {
		if len(row) > 0 {
			rows = append(rows, row)
		}
	}
	return rows
}

// isThere reports whether a change has a row, and its rows are full.
func (h shape) isThere(c Change) bool {
	rows := c.rows()
	return len(rows) > 0 && every(rows, h.isFull)
}

// isOfOneKey reports whether the rows of a change differ, but for their key.
func (h shape) isOfOneKey(c Change) bool {
	rows := c.rows()
	return h.key(rows[0]) == h.key(rows[len(rows)-1]) && c.changes()
}

// changes reports whether a change changes anything.
func (c Change) changes() bool { return !slices.Equal(c.Before, c.After) }

// copied returns a change with rows of its own.
func (c Change) copied() Change { return Change{slices.Clone(c.Before), slices.Clone(c.After)} }

// makes puts the row After of a change into rows that were found, or takes the
// row Before from them.
func (c Change) makes(found map[key][]Cell, k key) {
	if len(c.After) > 0 {
		found[k] = c.After
	} else {
		delete(found, k)
	}
}

// between returns the changes that make one sheet of another one.
func (h shape) between(a, b Sheet) map[key]Change {
	before, after := h.byKeys(a.Rows), h.byKeys(b.Rows)
	changes := map[key]Change{}
	for _, row := range slices.Concat(a.Rows, b.Rows) {
		k := h.key(row)
		if c := (Change{before[k], after[k]}); c.changes() {
			changes[k] = c
		}
	}
	return changes
}

// Diff returns the changes that make one sheet of another one.
func Diff(a, b Sheet) ([]Change, api.Errno) {
	if e := checkAll(a, b); e != api.OK {
		return nil, e
	}
	return mapped(inOrder(shapes()[a.Kind].between(a, b)), Change.copied), api.OK
}

// Apply returns the sheet after changes.
func Apply(s Sheet, l []Change) (Sheet, api.Errno) {
	if e := Check(s); e != api.OK {
		return Sheet{}, e
	}
	if e := CheckChanges(s.Kind, l); e != api.OK {
		return Sheet{}, e
	}
	h := shapes()[s.Kind]
	found := h.byKeys(s.Rows)
	for _, c := range l {
		k := h.key(c.rows()[0])
		if !slices.Equal(found[k], c.Before) {
			return Sheet{}, api.ErrWrong
		}
		c.makes(found, k)
	}
	return sheetOf(s.Kind, found)
}

// Invert returns the changes that undo changes.
func Invert(k Kind, l []Change) ([]Change, api.Errno) {
	if e := CheckChanges(k, l); e != api.OK {
		return nil, e
	}
	return mapped(l, func(c Change) Change { return Change{c.After, c.Before}.copied() }), api.OK
}
