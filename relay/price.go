package relay

import "klister/api"

// Prices returns prices that prove how long the best order takes.
func Prices(p Rules, s Squad) (legs, skiers []int, e api.Errno) {
	order, _, e := Best(p, s)
	if e != api.OK {
		return nil, nil, e
	}
	skiers = skierPrices(p, s, order)
	for leg, holder := range order {
		legs = append(legs, s.Times[holder][leg]+skiers[holder])
	}
	return legs, skiers, api.OK
}

// skierPrices returns the least prices of skiers with which nobody would take
// a leg of the best order for less than the one who has it. The rises come to
// an end: if one came back to a skier, the order in which all these legs are
// handed on would take less. So a price is a sum over different legs, and not
// greater than MaxPrice. For the same reason a skier who has fewer than Each
// legs keeps the price 0, and the prices prove how long the order takes.
func skierPrices(p Rules, s Squad, order []int) []int {
	c := crew{rules: p, classes: s.Classes}
	prices := make([]int, len(s.Classes))
rounds:
	for {
		for leg, holder := range order {
			for skier := range prices {
				least := prices[holder] + s.Times[holder][leg] - s.Times[skier][leg]
				if c.fits(skier, leg) && prices[skier] < least {
					prices[skier] = least
					continue rounds
				}
			}
		}
		break rounds
	}
	return prices
}

// Proves returns what prices prove.
func Proves(p Rules, s Squad, legs, skiers []int) (int, api.Errno) {
	if e := CheckSquad(p, s); e != api.OK {
		return 0, e
	}
	if len(legs) != len(p.Classes) || len(skiers) != len(s.Classes) {
		return 0, api.ErrCount
	}
	if !allWithin(legs, -MaxPrice, MaxPrice) || !allWithin(skiers, -MaxPrice, MaxPrice) {
		return 0, api.ErrRange
	}
	if !hold(p, s, legs, skiers) {
		return 0, api.ErrWrong
	}
	return sum(legs...) - p.Each*sum(skiers...), api.OK
}

// hold reports whether prices within their limits hold.
func hold(p Rules, s Squad, legs, skiers []int) bool {
	if !allWithin(skiers, 0, MaxPrice) {
		return false
	}
	c := crew{rules: p, classes: s.Classes}
	for leg, price := range legs {
		for skier, own := range skiers {
			if c.fits(skier, leg) && price-own > s.Times[skier][leg] {
				return false
			}
		}
	}
	return true
}
