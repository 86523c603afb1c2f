package relay

import (
	"slices"

	"klister/api"
)

// nobody is the number of no skier.
const nobody = -1

// crew is some skiers who share the legs of a race, and how many legs each of
// them has so far.
type crew struct {
	rules   Rules
	classes []int
	legs    [MaxSkiers]int
}

// fits reports whether the class of a skier is that of a leg.
func (c *crew) fits(skier, leg int) bool { return c.classes[skier] == c.rules.Classes[leg] }

// may reports whether a skier may ski a leg.
func (c *crew) may(skier, leg int) bool {
	return c.fits(skier, leg) && c.legs[skier] < c.rules.Each
}

// CheckSquad returns the error of rules and a squad.
func CheckSquad(p Rules, s Squad) api.Errno {
	if e := CheckRules(p); e != api.OK {
		return e
	}
	full := func(times []int) bool { return len(times) == len(p.Classes) }
	if !within(len(s.Classes), 1, MaxSkiers) || len(s.Times) != len(s.Classes) || !every(s.Times, full) {
		return api.ErrCount
	}
	limited := func(times []int) bool { return allWithin(times, 0, MaxTime) }
	if !allWithin(s.Classes, 0, MaxClass) || !every(s.Times, limited) {
		return api.ErrRange
	}
	return api.OK
}

// Takes returns how long an order takes.
func Takes(p Rules, s Squad, order []int) (int, api.Errno) {
	if e := CheckSquad(p, s); e != api.OK {
		return 0, e
	}
	if len(order) != len(p.Classes) {
		return 0, api.ErrCount
	}
	if !allWithin(order, 0, len(s.Classes)-1) {
		return 0, api.ErrUnknown
	}
	c := crew{rules: p, classes: s.Classes}
	time := 0
	for leg, skier := range order {
		if !c.may(skier, leg) {
			return 0, api.ErrWrong
		}
		c.legs[skier]++
		time += s.Times[skier][leg]
	}
	return time, api.OK
}

// best returns the first one of the orders that take least, of those without
// one skier, and how long it takes; none if there is no order.
func best(p Rules, s Squad, without int) ([]int, int) {
	c := &crew{rules: p, classes: s.Classes}
	may := c.may
	var kept, order []int
	least := 0
	var grow func(time int)
	grow = func(time int) {
		leg := len(order)
		if leg == len(p.Classes) {
			if kept == nil || time < least {
				kept, least = slices.Clone(order), time
			}
			return
		}
		for skier := range s.Classes {
			if skier == without || !may(skier, leg) {
				continue
			}
			c.legs[skier]++
			order = append(order, skier)
			grow(time + s.Times[skier][leg])
			order = order[:leg]
			c.legs[skier]--
		}
	}
	grow(0)
	return kept, least
}

// Best returns the order that takes least, and how long it takes.
func Best(p Rules, s Squad) ([]int, int, api.Errno) {
	if e := CheckSquad(p, s); e != api.OK {
		return nil, 0, e
	}
	order, time := best(p, s, nobody)
	if order == nil {
		return nil, 0, api.ErrNone
	}
	return order, time, api.OK
}

// Loss returns how much longer the best order takes without a skier.
func Loss(p Rules, s Squad, skier int) (int, api.Errno) {
	if e := CheckSquad(p, s); e != api.OK {
		return 0, e
	}
	if !within(skier, 0, len(s.Classes)-1) {
		return 0, api.ErrUnknown
	}
	order, time := best(p, s, skier)
	if order == nil {
		return 0, api.ErrNone
	}
	_, least := best(p, s, nobody)
	return time - least, api.OK
}
