package target

import "klister/api"

// CheckSheets reports whether sheets are valid.
func CheckSheets(n int, l []Sheet) api.Errno {
	if !within(n, 1, MaxBouts) || len(l) > MaxSheets {
		return api.ErrCount
	}
	if !every(l, func(s Sheet) bool { return ordered(n, s.From, s.To) }) {
		return api.ErrUnknown
	}
	if !every(l, func(s Sheet) bool { return 0 <= s.Loops.Lo && s.Loops.Lo <= s.Loops.Hi && s.Loops.Hi <= MaxCount }) {
		return api.ErrRange
	}
	return api.OK
}

// ordered reports whether two numbers are bouts, of so many, and the first one is not after the second one.
func ordered(n, from, to int) bool { return 0 <= from && from <= to && to < n }

// Skied returns how many loops were skied after each bout.
func Skied(n int, l []Sheet) ([]api.Span, api.Errno) {
	if e := CheckSheets(n, l); e != api.OK {
		return nil, e
	}
	spans := make([]api.Span, n)
	for bout := range spans {
		loops, e := Between(n, l, bout, bout)
		if e != api.OK {
			return nil, e
		}
		spans[bout] = loops
	}
	return spans, api.OK
}

// Between returns how many loops were skied after several bouts.
func Between(n int, l []Sheet, from, to int) (api.Span, api.Errno) {
	if e := CheckSheets(n, l); e != api.OK {
		return api.Span{}, e
	}
	if !ordered(n, from, to) {
		return api.Span{}, api.ErrUnknown
	}
	w := waysOf(make([]int, n), l)
	most, round := w.search(from, Zero)
	if len(round) > 0 {
		return api.Span{}, api.ErrConflict
	}
	// The way back counts minus the least number.
	less, _ := w.search(to+1, Zero)
	return api.Span{Lo: -less[from], Hi: most[to+1]}, api.OK
}
