package start

import (
	"cmp"
	"iter"
	"slices"
	"sort"

	"klister/api"
)

// never is a time after all others.
const never = MaxTime + 1

// progress is a race that is skied, with the time at which each skier is taken
// out, never for those who are not, and with those who are.
type progress struct {
	Race
	leaves []int
	outs   []Out
}

// CheckRace returns the error of a race.
func CheckRace(r Race) api.Errno {
	counts := within(r.Laps, 1, MaxLaps) && len(r.Bibs) <= MaxSkiers && len(r.Times) == len(r.Bibs)
	if !counts || !every(r.Times, func(l []int) bool { return len(l) <= r.Laps }) {
		return api.ErrCount
	}
	bibs := every(r.Bibs, func(n int) bool { return within(n, 1, MaxBib) })
	if !bibs || !every(r.Times, func(l []int) bool {
		return every(l, func(n int) bool { return within(n, 0, MaxTime) })
	}) {
		return api.ErrRange
	}
	if twice(r.Bibs, self) {
		return api.ErrTwice
	}
	if !every(r.Times, increasing) {
		return api.ErrOrder
	}
	return api.OK
}

// moments yields the times at which laps are finished, each one once, in increasing order.
func (r Race) moments() iter.Seq[int] {
	return func(yield func(int) bool) {
		times := slices.Concat(r.Times...)
		slices.Sort(times)
		for _, time := range slices.Compact(times) {
			if !yield(time) {
				return
			}
		}
	}
}

// done returns how many laps a skier has finished at a time.
func (p progress) done(skier, time int) int {
	return sort.SearchInts(p.Times[skier], time+1)
}

// counts reports whether a lap that a skier finishes at a time counts.
func (p progress) counts(skier, time int) bool { return time <= p.leaves[skier] }

// laps returns by their bibs the numbers of the laps that are finished at a time and count.
func (p progress) laps(time int) map[int]int {
	laps := map[int]int{}
	for i, bib := range p.Bibs {
		n := p.done(i, time)
		if n > 0 && p.Times[i][n-1] == time && p.counts(i, time) {
			laps[bib] = n
		}
	}
	return laps
}

// lapper returns the least bib of those who lap a skier who has finished so
// many laps, by the laps that are finished at one time; 0 if nobody does.
func lapper(laps map[int]int, done int) int {
	least := 0
	for bib, lap := range laps {
		if lap >= done+2 && (least == 0 || bib < least) {
			least = bib
		}
	}
	return least
}

// step takes out all who are lapped at a time.
func (p *progress) step(time int) {
	laps := p.laps(time)
	for i, bib := range p.Bibs {
		done := p.done(i, time)
		by := lapper(laps, done)
		if by == 0 || !p.counts(i, time) {
			continue
		}
		p.leaves[i] = time
		p.outs = append(p.outs, Out{Bib: bib, Done: done, Time: time, By: by})
	}
}

// skied goes through a race, and takes out who is lapped.
func skied(r Race) (progress, api.Errno) {
	if e := CheckRace(r); e != api.OK {
		return progress{}, e
	}
	p := progress{Race: r, leaves: slices.Repeat([]int{never}, len(r.Bibs))}
	for time := range p.moments() {
		p.step(time)
	}
	return p, api.OK
}

// Lapped returns the skiers who are taken out.
func Lapped(r Race) ([]Out, api.Errno) {
	p, e := skied(r)
	if e != api.OK {
		return nil, e
	}
	slices.SortFunc(p.outs, func(a, b Out) int {
		return cmp.Or(cmp.Compare(a.Time, b.Time), cmp.Compare(a.Bib, b.Bib))
	})
	return p.outs, api.OK
}

// Counted returns for each bib how many laps count.
func Counted(r Race) ([]int, api.Errno) {
	p, e := skied(r)
	if e != api.OK {
		return nil, e
	}
	counted := make([]int, len(r.Bibs))
	for i := range counted {
		counted[i] = p.done(i, p.leaves[i])
	}
	return counted, api.OK
}
