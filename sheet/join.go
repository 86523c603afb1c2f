package sheet

import (
	"slices"

	"klister/api"
)

// Join returns the changes that do what two lists do, one after the other.
func Join(k Kind, a, b []Change) ([]Change, api.Errno) {
	for _, l := range [...][]Change{a, b} {
		if e := CheckChanges(k, l); e != api.OK {
			return nil, e
		}
	}
	h, both := shapes()[k], map[key]Change{}
	for _, c := range a {
		both[h.key(c.rows()[0])] = c
	}
	for _, c := range b {
		if !c.joins(both, h.key(c.rows()[0])) {
			return nil, api.ErrWrong
		}
	}
	if len(both) > 2*MaxRows {
		return nil, api.ErrCount
	}
	return mapped(inOrder(both), Change.copied), api.OK
}

// joins joins a change to one of the same key that is made before it, if there
// is one, and reports whether it can.
func (c Change) joins(before map[key]Change, k key) bool {
	first, is := before[k]
	if is && !slices.Equal(first.After, c.Before) {
		return false
	}
	if is {
		delete(before, k)
		c.Before = first.Before
	}
	if c.changes() {
		before[k] = c
	}
	return true
}

// Merge returns the sheet with the changes of two versions, or the keys of their conflicts.
func Merge(base, a, b Sheet) (Sheet, [][]int, api.Errno) {
	if e := checkAll(base, a, b); e != api.OK {
		return Sheet{}, nil, e
	}
	h := shapes()[base.Kind]
	changes, conflicts := h.between(base, a), map[key][]int{}
	for k, c := range h.between(base, b) {
		if first, is := changes[k]; is && !slices.Equal(first.After, c.After) {
			conflicts[k] = slices.Clone(k[:h.keys])
		}
		changes[k] = c
	}
	if len(conflicts) > 0 {
		return Sheet{}, inOrder(conflicts), api.OK
	}
	found := h.byKeys(base.Rows)
	for k, c := range changes {
		c.makes(found, k)
	}
	s, e := sheetOf(base.Kind, found)
	return s, nil, e
}
