package course

import "klister/api"

// Why returns a proof that holds for the first day that can fail.
func Why(w Winter) (Proof, api.Errno) {
	t, e := failing(w)
	if e != api.OK {
		return Proof{}, e
	}
	// All that can be made is made after the last day on which the store was
	// full, so what a proof reckons from that day on is what happens.
	return Proof{From: t.full, Day: t.fails}, api.OK
}

// Proves returns by how much snow is lacking by a proof.
func Proves(w Winter, p Proof) (int, api.Errno) {
	if e := CheckWinter(w); e != api.OK {
		return 0, e
	}
	if !within(p.Day, 0, len(w.Days)-1) || !within(p.From, None, p.Day) {
		return 0, api.ErrUnknown
	}
	lack, holds := worst().spell(w).lack(p)
	if !holds {
		return 0, api.ErrWrong
	}
	return lack, api.OK
}

// lack returns by how much snow is lacking by a proof, and whether it holds.
func (s spell) lack(p Proof) (int, bool) {
	left := s.Stock
	for day := max(p.From, 0); day < p.Day; day++ {
		left = s.atMost(p, day, left) - s.sky.Need[day]
		if left < 0 {
			return 0, false
		}
	}
	lack := s.sky.Need[p.Day] - s.atMost(p, p.Day, left)
	return lack, lack > 0
}

// atMost returns what the store has at most, by a proof, after snow is made on
// a day before which so much was left.
func (s spell) atMost(p Proof, day, left int) int {
	if day == p.From {
		return s.Store
	}
	return max(left-s.sky.Loss[day], 0) + s.sky.Make[day]
}
