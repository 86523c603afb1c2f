package course

import (
	"slices"
	"sort"

	"klister/api"
)

// ends tells which end of each span of a day is taken.
type ends struct{ need, made, loss func(api.Span) int }

// spell is a winter with one of its weathers.
type spell struct {
	Winter
	sky Weather
}

// tale is what happens in a spell: what is told of the days before the one
// that fails, that day, and the last day up to it on which the store could not
// hold all that could have been made.
type tale struct {
	stocks, made []int
	piles        []Pile
	fails, full  int
}

// CheckWinter reports whether a winter is valid.
func CheckWinter(w Winter) api.Errno {
	if !within(w.Store, 1, MaxStore) || !within(w.Stock, 0, w.Store) {
		return api.ErrRange
	}
	if !within(len(w.Days), 1, MaxDays) {
		return api.ErrCount
	}
	good := func(d Day) bool {
		return bounded(d.Need, MaxMuch) && bounded(d.Make, MaxMuch) && bounded(d.Loss, MaxMuch)
	}
	if !every(w.Days, good) {
		return api.ErrRange
	}
	return api.OK
}

// checkWeather returns the errors of a weather of a valid winter.
func checkWeather(w Winter, t Weather) api.Errno {
	lists := [][]int{t.Need, t.Make, t.Loss}
	if !every(lists, func(l []int) bool { return len(l) == len(w.Days) }) {
		return api.ErrCount
	}
	for i, d := range w.Days {
		if !inside(t.Need[i], d.Need) || !inside(t.Make[i], d.Make) || !inside(t.Loss[i], d.Loss) {
			return api.ErrRange
		}
	}
	return api.OK
}

// low and high return the ends of a span.
func low(s api.Span) int  { return s.Lo }
func high(s api.Span) int { return s.Hi }

// worst and best return the ends that leave the least and the most snow.
func worst() ends { return ends{need: high, made: low, loss: high} }
func best() ends  { return ends{need: low, made: high, loss: low} }

// spell returns a winter with the weather of these ends.
func (x ends) spell(w Winter) spell {
	return spell{w, Weather{
		Need: mapped(w.Days, func(d Day) int { return x.need(d.Need) }),
		Make: mapped(w.Days, func(d Day) int { return x.made(d.Make) }),
		Loss: mapped(w.Days, func(d Day) int { return x.loss(d.Loss) }),
	}}
}

// Worst returns the worst weather.
func Worst(w Winter) (Weather, api.Errno) {
	if e := CheckWinter(w); e != api.OK {
		return Weather{}, e
	}
	return worst().spell(w).sky, api.OK
}

// play tells what happens in a spell.
func (s spell) play() tale {
	t := tale{piles: drained([]Pile{{Day: None, Much: s.Stock}}, 0), fails: None, full: None}
	stock := s.Stock
days:
	for day := range len(s.Days) {
		need, could := s.sky.Need[day], s.sky.Make[day]
		lost := min(s.sky.Loss[day], stock)
		made := min(could, s.Store-(stock-lost))
		if made < could {
			t.full = day
		}
		stock += made - lost
		switch {
		case stock < need:
			t.fails = day
			break days
		case made > 0:
			t.piles = append(drained(t.piles, lost), Pile{Day: day, Much: made})
			t.piles = drained(t.piles, need)
		default:
			t.piles = drained(t.piles, lost+need)
		}
		stock -= need
		t.stocks = append(t.stocks, stock)
		t.made = append(t.made, made)
	}
	return t
}

// drained returns what is left of piles if so much, and not more than there
// is, comes from the oldest ones; a pile of which nothing is left is none.
func drained(piles []Pile, much int) []Pile {
	empty := 0
	for empty < len(piles) && piles[empty].Much <= much {
		much -= piles[empty].Much
		empty++
	}
	left := slices.Clone(piles[empty:])
	if len(left) > 0 {
		left[0].Much -= much
	}
	return left
}

// told tells what happens in a winter with a weather, if both are valid.
func told(w Winter, t Weather) (tale, api.Errno) {
	if e := CheckWinter(w); e != api.OK {
		return tale{}, e
	}
	if e := checkWeather(w, t); e != api.OK {
		return tale{}, e
	}
	return spell{w, t}.play(), api.OK
}

// Stocks returns the stock after each day.
func Stocks(w Winter, t Weather) ([]int, api.Errno) {
	x, e := told(w, t)
	return x.stocks, e
}

// Fails returns the first day that fails in a weather.
func Fails(w Winter, t Weather) (int, api.Errno) {
	x, e := told(w, t)
	return x.fails, e
}

// Made returns what is made on each day.
func Made(w Winter, t Weather) ([]int, api.Errno) {
	x, e := told(w, t)
	return x.made, e
}

// Piles returns the piles that are left.
func Piles(w Winter, t Weather) ([]Pile, api.Errno) {
	x, e := told(w, t)
	return x.piles, e
}

// failing tells what happens in the worst weather, if a day fails in it. There
// is never less snow in another weather, so no day before fails in any.
func failing(w Winter) (tale, api.Errno) {
	if e := CheckWinter(w); e != api.OK {
		return tale{}, e
	}
	t := worst().spell(w).play()
	if t.fails == None {
		return tale{}, api.ErrNone
	}
	return t, api.OK
}

// First returns the first day that fails in some weather.
func First(w Winter) (int, api.Errno) {
	t, e := failing(w)
	return t.fails, e
}

// lasts reports whether no day of the winter fails with this stock and store.
func (w Winter) lasts(stock, store int) bool {
	w.Stock, w.Store = stock, store
	return worst().spell(w).play().fails == None
}

// Least returns the least stock with which no day fails.
func Least(w Winter) (int, api.Errno) {
	if e := CheckWinter(w); e != api.OK {
		return 0, e
	}
	return least(0, w.Store, func(stock int) bool { return w.lasts(stock, w.Store) })
}

// Room returns the least store with which no day fails.
func Room(w Winter) (int, api.Errno) {
	if e := CheckWinter(w); e != api.OK {
		return 0, e
	}
	return least(max(w.Stock, 1), MaxStore, func(store int) bool { return w.lasts(w.Stock, store) })
}

// least returns the least number from lo to hi that is enough, where whatever
// is more than enough is so too.
func least(lo, hi int, enough func(int) bool) (int, api.Errno) {
	n := lo + sort.Search(hi-lo+1, func(i int) bool { return enough(lo + i) })
	if n > hi {
		return 0, api.ErrNone
	}
	return n, api.OK
}

// Ranges returns the least and the greatest stock after each day.
func Ranges(w Winter) ([]api.Span, api.Errno) {
	if e := CheckWinter(w); e != api.OK {
		return nil, e
	}
	least := worst().spell(w).play().stocks
	most := best().spell(w).play().stocks
	list := make([]api.Span, len(least))
	for day := range len(least) {
		list[day] = api.Span{Lo: least[day], Hi: most[day]}
	}
	return list, api.OK
}
