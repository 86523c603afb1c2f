package course_test

import (
	"math/rand"
	"slices"

	"klister/api"
	"klister/course"
)

// This file says the chapter's terms again in the slowest way, for tests to
// compare with: all lists of loops, all weathers, and snow metre by metre.

func span(lo, hi int) api.Span { return api.Span{Lo: lo, Hi: hi} }

func in(n int, s api.Span) bool { return n >= s.Lo && n <= s.Hi }

// lists returns all lists of so many numbers from 0 to n-1, in lexicographic order.
func lists(n, size int) [][]int {
	if size == 0 {
		return [][]int{{}}
	}
	var all [][]int
	for _, head := range lists(n, size-1) {
		for i := 0; i < n; i++ {
			all = append(all, append(slices.Clone(head), i))
		}
	}
	return all
}

// ordered returns those of all lists that are courses.
func ordered(n, size int) [][]int {
	return slices.DeleteFunc(lists(n, size), func(l []int) bool { return !slices.IsSorted(l) })
}

// breaks returns the rules that a course breaks.
func breaks(s []course.Loop, r course.Rules, c []int) []course.Rule {
	length, climb, lap, wide, often := 0, 0, false, false, false
	for _, i := range c {
		length += s[i].Length
		climb += s[i].Climb
		lap = lap || !in(s[i].Length, r.Lap)
		wide = wide || s[i].Wide < r.Wide
		uses := 0
		for _, j := range c {
			if i == j {
				uses++
			}
		}
		often = often || uses > r.Uses
	}
	var l []course.Rule
	if !in(length, r.Length) {
		l = append(l, course.Lengths)
	}
	if !in(climb, r.Climb) {
		l = append(l, course.Climbs)
	}
	if lap {
		l = append(l, course.Laps)
	}
	if wide {
		l = append(l, course.Widths)
	}
	if often {
		l = append(l, course.Often)
	}
	return l
}

// rightOnes returns the courses that break no rule.
func rightOnes(s []course.Loop, r course.Rules) [][]int {
	return slices.DeleteFunc(ordered(len(s), r.Laps), func(c []int) bool { return len(breaks(s, r, c)) > 0 })
}

// sets returns all lists of rules, the shorter ones first, in lexicographic order.
func sets() [][]course.Rule {
	var all [][]course.Rule
	for set := 0; set < 32; set++ {
		var l []course.Rule
		for i := course.Lengths; i <= course.Often; i++ {
			if set&(1<<i) != 0 {
				l = append(l, i)
			}
		}
		all = append(all, l)
	}
	slices.SortFunc(all, func(a, b []course.Rule) int {
		if len(a) != len(b) {
			return len(a) - len(b)
		}
		return slices.Compare(a, b)
	})
	return all
}

// yields goes through the lists of rules to be given up, one by one.
func yields(s []course.Loop, r course.Rules) ([]course.Rule, []int) {
	for _, up := range sets() {
		for _, c := range ordered(len(s), r.Laps) {
			rest := slices.DeleteFunc(breaks(s, r, c), func(x course.Rule) bool { return slices.Contains(up, x) })
			if len(rest) == 0 {
				return up, c
			}
		}
	}
	return nil, nil
}

// snowOf counts the cubic metres of a course, by its area.
func snowOf(s []course.Loop, c []int, depth int) (area, snow int) {
	for i, l := range s {
		if slices.Contains(c, i) {
			area += l.Length * l.Wide
		}
	}
	for snow*100 < area*depth {
		snow++
	}
	return area, snow
}

// story is what happens in a weather.
type story struct {
	stocks, made []int
	piles        []course.Pile
	fails        int
}

// told moves the snow of a weather metre by metre: each has the day on which
// it was made.
func told(w course.Winter, t course.Weather) story {
	x := story{fails: course.None}
	var store []int
	for i := 0; i < w.Stock; i++ {
		store = append(store, course.None)
	}
	for day := range w.Days {
		morning := slices.Clone(store)
		for i := 0; i < t.Loss[day] && len(store) > 0; i++ {
			store = store[1:]
		}
		made := 0
		for made < t.Make[day] && len(store) < w.Store {
			store = append(store, day)
			made++
		}
		if len(store) < t.Need[day] {
			x.fails, store = day, morning
			break
		}
		store = store[t.Need[day]:]
		x.stocks, x.made = append(x.stocks, len(store)), append(x.made, made)
	}
	for day := course.None; day < len(w.Days); day++ {
		if much := len(slices.DeleteFunc(slices.Clone(store), func(d int) bool { return d != day })); much > 0 {
			x.piles = append(x.piles, course.Pile{Day: day, Much: much})
		}
	}
	return x
}

// numbers returns those of a span.
func numbers(s api.Span) []int {
	var l []int
	for n := s.Lo; n <= s.Hi; n++ {
		l = append(l, n)
	}
	return l
}

// weathers returns all weathers of some days.
func weathers(days []course.Day) []course.Weather {
	if len(days) == 0 {
		return []course.Weather{{}}
	}
	last := days[len(days)-1]
	var all []course.Weather
	for _, t := range weathers(days[:len(days)-1]) {
		for _, need := range numbers(last.Need) {
			for _, made := range numbers(last.Make) {
				for _, loss := range numbers(last.Loss) {
					all = append(all, course.Weather{
						Need: append(slices.Clone(t.Need), need),
						Make: append(slices.Clone(t.Make), made),
						Loss: append(slices.Clone(t.Loss), loss),
					})
				}
			}
		}
	}
	return all
}

// firstOf returns the first day that fails in some weather, None if none does.
func firstOf(w course.Winter) int {
	first := course.None
	for _, t := range weathers(w.Days) {
		if n := told(w, t).fails; n != course.None && (first == course.None || n < first) {
			first = n
		}
	}
	return first
}

// proved reckons a proof as its term says, and returns by how much snow is
// lacking, 0 if the proof does not hold.
func proved(w course.Winter, p course.Proof) int {
	left := w.Stock
	for day := 0; day <= p.Day; day++ {
		if day < p.From {
			continue
		}
		left -= w.Days[day].Loss.Hi
		if left < 0 {
			left = 0
		}
		left += w.Days[day].Make.Lo
		if day == p.From {
			left = w.Store
		}
		left -= w.Days[day].Need.Hi
		if left < 0 {
			if day == p.Day {
				return -left
			}
			return 0
		}
	}
	return 0
}

// someSpan returns a span of numbers from 0 to most, that is not wider than wide.
func someSpan(g *rand.Rand, most, wide int) api.Span {
	lo := g.Intn(most + 1)
	return span(lo, min(lo+g.Intn(wide+1), most))
}

// someWinter returns a winter of few days and little snow.
func someWinter(g *rand.Rand) course.Winter {
	w := course.Winter{Store: 1 + g.Intn(9)}
	w.Stock = g.Intn(w.Store + 1)
	for i := 1 + g.Intn(4); i > 0; i-- {
		w.Days = append(w.Days, course.Day{Need: someSpan(g, 5, 1), Make: someSpan(g, 5, 1), Loss: someSpan(g, 3, 1)})
	}
	return w
}

// someStadium returns a stadium of few loops, and rules.
func someStadium(g *rand.Rand) ([]course.Loop, course.Rules) {
	s := make([]course.Loop, 1+g.Intn(4))
	for i := range s {
		s[i] = course.Loop{Length: 1 + g.Intn(6), Climb: g.Intn(4), Wide: 1 + g.Intn(4)}
	}
	laps := 1 + g.Intn(4)
	return s, course.Rules{
		Laps:   laps,
		Length: someSpan(g, 6*laps, 8),
		Climb:  someSpan(g, 3*laps, 6),
		Lap:    someSpan(g, 6, 6),
		Wide:   1 + g.Intn(3),
		Uses:   1 + g.Intn(4),
	}
}
