package target

import (
	"slices"

	"klister/api"
)

// way is what all steps of a kind have: how many steps there are, where the one
// with an index begins and ends, and what it counts.
type way struct {
	size   int
	ends   func(index int) (from, to int)
	counts func(index int) int
}

// ways are those of all kinds.
type ways [Owed + 1]way

// waysOf returns the ways of loops that are owed, and of sheets.
func waysOf(owed []int, l []Sheet) ways {
	sheet := func(i int) (int, int) { return l[i].From, l[i].To + 1 }
	bout := func(i int) (int, int) { return i, i + 1 }
	return ways{
		High: {len(l), sheet, func(i int) int { return l[i].Loops.Hi }},
		Low:  {len(l), back(sheet), func(i int) int { return -l[i].Loops.Lo }},
		Most: {len(owed), bout, func(int) int { return MaxSkied }},
		Zero: {len(owed), back(bout), func(int) int { return 0 }},
		Owed: {len(owed), back(bout), func(i int) int { return -owed[i] }},
	}
}

// back lets steps begin where others end, and end where they begin.
func back(ends func(int) (int, int)) func(int) (int, int) {
	return func(i int) (int, int) {
		from, to := ends(i)
		return to, from
	}
}

// has reports whether there is a step.
func (w ways) has(s Step) bool {
	return within(int(s.Kind), 0, int(Owed)) && within(s.Index, 0, w[s.Kind].size-1)
}

// from, to and counts return where a step begins and ends, and what it counts.
func (w ways) from(s Step) int {
	from, _ := w[s.Kind].ends(s.Index)
	return from
}

func (w ways) to(s Step) int {
	_, to := w[s.Kind].ends(s.Index)
	return to
}

func (w ways) counts(s Step) int { return w[s.Kind].counts(s.Index) }

// steps returns all steps of the kinds up to one.
func (w ways) steps(last Kind) []Step {
	var list []Step
	for kind := range last + 1 {
		for index := range w[kind].size {
			list = append(list, Step{Kind: kind, Index: index})
		}
	}
	return list
}

// search returns the least sum with which each place is reached from a place, by
// steps of the kinds up to one; or, if there is one, a closed round with a sum
// less than 0: by such a round the sums would get less without an end.
func (w ways) search(place int, last Kind) (map[int]int, []Step) {
	sums := map[int]int{place: 0}
	by := map[int]Step{}
	steps := w.steps(last)
	var round []Step
	less := true
places:
	for less {
		less = false
		for _, s := range steps {
			before, reached := sums[w.from(s)]
			sum, known := sums[w.to(s)]
			now := before + w.counts(s)
			if !reached || known && sum <= now {
				continue
			}
			sums[w.to(s)], by[w.to(s)] = now, s
			less = true
			if round = w.round(by, s); len(round) > 0 {
				break places
			}
		}
	}
	return sums, round
}

// round returns the closed round that ends with a step, if the steps by which
// places are reached lead from its end to it.
func (w ways) round(by map[int]Step, last Step) []Step {
	round := []Step{last}
	for {
		before, found := by[w.from(round[len(round)-1])]
		if !found {
			return nil
		}
		if before == last {
			slices.Reverse(round)
			return round
		}
		round = append(round, before)
	}
}

// checkOwed returns the errors of owed loops and of sheets for as many bouts.
func checkOwed(owed []int, l []Sheet) api.Errno {
	if !within(len(owed), 1, MaxBouts) {
		return api.ErrCount
	}
	if !every(owed, func(n int) bool { return within(n, 0, Targets) }) {
		return api.ErrRange
	}
	return CheckSheets(len(owed), l)
}

// Few reports whether a skier has surely skied too few loops.
func Few(owed []int, l []Sheet) (bool, api.Errno) {
	if e := checkOwed(owed, l); e != api.OK {
		return false, e
	}
	_, round := waysOf(owed, l).search(0, Owed)
	return len(round) > 0, api.OK
}

// Round returns a round that shows it.
func Round(owed []int, l []Sheet) ([]Step, api.Errno) {
	if e := checkOwed(owed, l); e != api.OK {
		return nil, e
	}
	// Whether there is a truth at all is asked first, by steps without Owed.
	for _, last := range []Kind{Zero, Owed} {
		if _, round := waysOf(owed, l).search(0, last); len(round) > 0 {
			return round, api.OK
		}
	}
	return nil, api.ErrNone
}

// RoundShows returns the sum of a round.
func RoundShows(owed []int, l []Sheet, round []Step) (int, api.Errno) {
	if e := checkOwed(owed, l); e != api.OK {
		return 0, e
	}
	if !within(len(round), 1, MaxSteps) {
		return 0, api.ErrCount
	}
	w := waysOf(owed, l)
	if !every(round, w.has) {
		return 0, api.ErrUnknown
	}
	sum := total(round, w.counts)
	if !w.closed(round) || sum >= 0 {
		return 0, api.ErrWrong
	}
	return sum, api.OK
}

// closed reports whether each step of a round begins where the one before it
// ends, and the first one where the last one ends.
func (w ways) closed(round []Step) bool {
	at := w.to(round[len(round)-1])
	for _, s := range round {
		if w.from(s) != at {
			return false
		}
		at = w.to(s)
	}
	return true
}

// Due returns all skiers that have surely skied too few loops.
func Due(owed [][]int, l [][]Sheet) ([]int, api.Errno) {
	if len(owed) > MaxLanes || len(l) != len(owed) {
		return nil, api.ErrCount
	}
	var due []int
	for skier := range owed {
		few, e := Few(owed[skier], l[skier])
		if e != api.OK {
			return nil, e
		}
		if few {
			due = append(due, skier)
		}
	}
	return due, api.OK
}
