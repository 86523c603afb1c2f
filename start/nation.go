package start

import (
	"slices"

	"klister/api"
)

// tally is how many skiers each nation has.
type tally [MaxNation + 1]int

// tallied counts the skiers of a field.
func tallied(f []Skier) tally {
	var t tally
	for _, s := range f {
		t[s.Nation]++
	}
	return t
}

// of returns how many skiers a nation has: none, if no nation has this number.
func (t tally) of(nation int) int {
	if !within(nation, 0, MaxNation) {
		return 0
	}
	return t[nation]
}

// most returns how many skiers the largest nations have.
func (t tally) most() int { return slices.Max(t[:]) }

// largest returns the nations that have the most skiers.
func (t tally) largest() []int {
	most := t.most()
	var nations []int
	for nation, n := range t {
		if n == most {
			nations = append(nations, nation)
		}
	}
	return nations
}

// Apart returns by how much an order keeps nations apart.
func Apart(f []Skier, order []int) (int, api.Errno) {
	if e := Check(f); e != api.OK {
		return 0, e
	}
	if len(order) != len(f) {
		return 0, api.ErrCount
	}
	if !every(order, func(i int) bool { return within(i, 0, len(f)-1) }) {
		return 0, api.ErrUnknown
	}
	if twice(order, self) {
		return 0, api.ErrTwice
	}
	return apart(f, order), api.OK
}

// apart returns by how much an order of a field keeps nations apart.
func apart(f []Skier, order []int) int {
	least := len(f)
	last := map[int]int{}
	for place, i := range order {
		nation := f[i].Nation
		if before, found := last[nation]; found {
			least = min(least, place-before)
		}
		last[nation] = place
	}
	return least
}

// Spread returns an order that keeps nations apart by the most, and by how much.
func Spread(f []Skier) ([]int, int, api.Errno) {
	ranked, e := Ranked(f)
	if e != api.OK {
		return nil, 0, e
	}
	order := spread(f, ranked)
	return order, apart(f, order), api.OK
}

// spread deals the skiers into rounds, which follow one another: of each of the
// largest nations one skier into each round, the others in turn into all rounds
// but the last one. Each of these gets at least as many skiers as the bound of
// the largest nations, so two skiers at the same place of neighbouring rounds
// are that far apart. A nation whose skiers are dealt in two turns could have
// two at different places of neighbouring rounds only if it had one for each
// round of a turn; but such nations are dealt first, each in a turn of its own.
func spread(f []Skier, ranked []int) []int {
	t := tallied(f)
	together := sorted(ranked, func(i int) int { return f[i].Nation })
	together = sorted(together, func(i int) int { return -t.of(f[i].Nation) })
	most := t.most()
	large := most * len(t.largest())
	rounds := make([][]int, most)
	for i := range len(together) {
		round := i % most
		if i >= large {
			round = (i - large) % (most - 1)
		}
		rounds[round] = append(rounds[round], together[i])
	}
	return slices.Concat(rounds...)
}

// Bound returns the bound of nations.
func Bound(f []Skier, nations []int) (int, api.Errno) {
	if e := Check(f); e != api.OK {
		return 0, e
	}
	if len(nations) == 0 {
		return 0, api.ErrCount
	}
	if !increasing(nations) {
		return 0, api.ErrOrder
	}
	t := tallied(f)
	least := len(f)
	for _, nation := range nations {
		least = min(least, t.of(nation))
	}
	if least < 2 {
		return 0, api.ErrNone
	}
	return (len(f) - len(nations)) / (least - 1), api.OK
}

// increasing reports whether a list of numbers is strictly increasing.
func increasing(numbers []int) bool { return slices.IsSorted(numbers) && !twice(numbers, self) }

// Tight returns nations that prove that no order does better than that of Spread.
func Tight(f []Skier) ([]int, api.Errno) {
	if e := Check(f); e != api.OK {
		return nil, e
	}
	t := tallied(f)
	if t.most() < 2 {
		return nil, api.ErrNone
	}
	return t.largest(), api.OK
}
