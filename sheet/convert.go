package sheet

import (
	"cmp"
	"slices"

	"klister/api"
	"klister/chip"
	"klister/start"
)

// OfStarts returns the sheet of a start list.
func OfStarts(l []start.Start) (Sheet, api.Errno) {
	if e := start.CheckList(l); e != api.OK {
		return Sheet{}, e
	}
	rows := mapped(l, func(s start.Start) []Cell { return row(s.Bib, s.Time, s.Gate) })
	return sheetOf(Starts, shapes()[Starts].byKeys(rows))
}

// row returns a row of numbers.
func row(numbers ...int) []Cell {
	return mapped(numbers, func(n int) Cell { return Cell{Number: n} })
}

// ToStarts returns the start list of a sheet.
func ToStarts(s Sheet) ([]start.Start, api.Errno) {
	if e := checkOf(Starts, s); e != api.OK {
		return nil, e
	}
	list := mapped(s.Rows, func(row []Cell) start.Start {
		return start.Start{Bib: row[0].Number, Time: row[1].Number, Gate: row[2].Number}
	})
	slices.SortFunc(list, func(a, b start.Start) int {
		return cmp.Or(cmp.Compare(a.Time, b.Time), cmp.Compare(a.Bib, b.Bib))
	})
	if e := start.CheckList(list); e != api.OK {
		return nil, e
	}
	return list, api.OK
}

// checkOf returns the error of a sheet that has to be of one kind.
func checkOf(k Kind, s Sheet) api.Errno {
	if e := Check(s); e != api.OK {
		return e
	}
	if s.Kind != k {
		return api.ErrConflict
	}
	return api.OK
}

// OfPasses returns the sheet of readings.
func OfPasses(l []chip.Reading) (Sheet, api.Errno) {
	if len(l) > MaxRows {
		return Sheet{}, api.ErrCount
	}
	h := shapes()[Passes]
	rows := mapped(l, func(r chip.Reading) []Cell { return row(r.Skier, r.Mat, r.Clock, r.Time) })
	if e := h.checkCells(rows); e != api.OK {
		return Sheet{}, e
	}
	found := h.byKeys(rows)
	if len(found) < len(rows) {
		return Sheet{}, api.ErrTwice
	}
	return sheetOf(Passes, found)
}

// ToPasses returns the readings of a sheet.
func ToPasses(s Sheet) ([]chip.Reading, api.Errno) {
	if e := checkOf(Passes, s); e != api.OK {
		return nil, e
	}
	return mapped(s.Rows, func(row []Cell) chip.Reading {
		return chip.Reading{Skier: row[0].Number, Mat: row[1].Number, Clock: row[2].Number, Time: row[3].Number}
	}), api.OK
}
