package chip_test

import (
	"fmt"
	"iter"
	"math/rand"
	"slices"

	"klister/api"
	"klister/chip"
)

// This file says the chapter's terms again in the slowest way, for tests to
// compare with: all truths one by one, chains step by step, and all lists of
// readings.

func span(lo, hi int) api.Span { return api.Span{Lo: lo, Hi: hi} }

func at(skier, mat int) chip.Spot { return chip.Spot{Skier: skier, Mat: mat} }

func reading(skier, mat, clock, time int) chip.Reading {
	return chip.Reading{Skier: skier, Mat: mat, Clock: clock, Time: time}
}

func step(kind chip.Kind, skier, index int, up bool) chip.Step {
	return chip.Step{Kind: kind, Skier: skier, Index: index, Up: up}
}

// two returns the race of the chapter's example 1, with more readings.
func two(more ...chip.Reading) chip.Race {
	return chip.Race{
		Starts:   []int{0, 300},
		Splits:   []api.Span{span(1000, 1200), span(900, 1500)},
		Clocks:   []chip.Clock{{Offset: span(-5, 5), Error: 1}},
		Readings: append([]chip.Reading{reading(0, 2, 0, 2250), reading(1, 1, 0, 1400), reading(1, 2, 0, 2499)}, more...),
	}
}

// spoilt returns the race of example 5, and bare that of example 6.
func spoilt() chip.Race {
	r := two()
	r.Readings[1].Time = 1700
	return r
}

func bare() chip.Race {
	r := two()
	r.Readings = nil
	return r
}

// exact returns a race of skiers who start at 0, with one more mat and an exact clock.
func exact(skiers int, split api.Span, readings ...chip.Reading) chip.Race {
	return chip.Race{Starts: make([]int, skiers), Splits: []api.Span{split}, Clocks: []chip.Clock{{}}, Readings: readings}
}

// spots returns all spots of a race.
func spots(r chip.Race) []chip.Spot {
	var all []chip.Spot
	for skier := range r.Starts {
		for mat := range len(r.Splits) + 1 {
			all = append(all, at(skier, mat))
		}
	}
	return all
}

// truth is one, or is not.
type truth struct {
	times   [][]int
	offsets []int
}

func (t truth) at(s chip.Spot) int { return t.times[s.Skier][s.Mat] }

// place returns the place of a spot.
func (t truth) place(s chip.Spot) int {
	place := 1
	for _, times := range t.times {
		if times[s.Mat] < t.at(s) {
			place++
		}
	}
	return place
}

// in reports whether a number is in a span.
func in(n int, s api.Span) bool { return s.Lo <= n && n <= s.Hi }

// isTruth reports whether times and offsets are a truth of a race.
func isTruth(r chip.Race, t truth) bool {
	for skier, start := range r.Starts {
		if t.times[skier][0] != start {
			return false
		}
		for k, split := range r.Splits {
			if !in(t.times[skier][k+1]-t.times[skier][k], split) {
				return false
			}
		}
	}
	for k, c := range r.Clocks {
		if !in(t.offsets[k], c.Offset) {
			return false
		}
	}
	for _, x := range r.Readings {
		wrong := t.times[x.Skier][x.Mat] + t.offsets[x.Clock] - x.Time
		if wrong < -r.Clocks[x.Clock].Error || wrong > r.Clocks[x.Clock].Error {
			return false
		}
	}
	return true
}

// choices yields all lists of one of each of some lists.
func choices[T any](lists [][]T) iter.Seq[[]T] {
	return func(yield func([]T) bool) {
		var grow func(list []T) bool
		grow = func(list []T) bool {
			if len(list) == len(lists) {
				return yield(slices.Clone(list))
			}
			for _, x := range lists[len(list)] {
				if !grow(append(list, x)) {
					return false
				}
			}
			return true
		}
		grow(nil)
	}
}

// numbers returns the numbers of each of some spans.
func numbers(spans ...api.Span) [][]int {
	all := make([][]int, len(spans))
	for k, s := range spans {
		for n := s.Lo; n <= s.Hi; n++ {
			all[k] = append(all[k], n)
		}
	}
	return all
}

// truths yields all truths of a race.
func truths(r chip.Race) iter.Seq[truth] {
	return func(yield func(truth) bool) {
		offsets := make([]api.Span, len(r.Clocks))
		for k, c := range r.Clocks {
			offsets[k] = c.Offset
		}
		ways := make([][][]int, len(r.Starts))
		for skier, start := range r.Starts {
			for laps := range choices(numbers(r.Splits...)) {
				times := []int{start}
				for k, lap := range laps {
					times = append(times, times[k]+lap)
				}
				ways[skier] = append(ways[skier], times)
			}
		}
		for o := range choices(numbers(offsets...)) {
			for times := range choices(ways) {
				if t := (truth{times, o}); isTruth(r, t) && !yield(t) {
					return
				}
			}
		}
	}
}

// slowSound reports whether there is a truth.
func slowSound(r chip.Race) bool {
	for range truths(r) {
		return true
	}
	return false
}

// wide is the span of numbers that were seen.
type wide struct {
	api.Span
	seen bool
}

func (w wide) with(n int) wide {
	if !w.seen {
		return wide{span(n, n), true}
	}
	return wide{span(min(w.Lo, n), max(w.Hi, n)), true}
}

// known is what is seen in all truths of a race.
type known struct {
	sound         bool
	times, places map[chip.Spot]wide
	gaps          map[[2]chip.Spot]wide
	offsets       map[int]wide
}

// slow goes through all truths of a race.
func slow(r chip.Race) known {
	k := known{false, map[chip.Spot]wide{}, map[chip.Spot]wide{}, map[[2]chip.Spot]wide{}, map[int]wide{}}
	all := spots(r)
	for t := range truths(r) {
		k.sound = true
		for _, s := range all {
			k.times[s] = k.times[s].with(t.at(s))
			k.places[s] = k.places[s].with(t.place(s))
			for _, to := range all {
				k.gaps[[2]chip.Spot{s, to}] = k.gaps[[2]chip.Spot{s, to}].with(t.at(to) - t.at(s))
			}
		}
		for clock, n := range t.offsets {
			k.offsets[clock] = k.offsets[clock].with(n)
		}
	}
	return k
}

// without returns a race without the readings of some indices.
func without(r chip.Race, list ...int) chip.Race {
	less := r
	less.Readings = nil
	for k, x := range r.Readings {
		if !slices.Contains(list, k) {
			less.Readings = append(less.Readings, x)
		}
	}
	return less
}

// slowFalse returns the readings that are false: of all lists, those with fewer
// readings first, the first one without which there is a truth.
func slowFalse(r chip.Race, sound func(chip.Race) bool) ([]int, api.Errno) {
	if sound(r) {
		return nil, api.OK
	}
	for a := range r.Readings {
		if sound(without(r, a)) {
			return []int{a}, api.OK
		}
	}
	for a := range r.Readings {
		for b := a + 1; b < len(r.Readings); b++ {
			if sound(without(r, a, b)) {
				return []int{a, b}, api.OK
			}
		}
	}
	return nil, api.ErrLarge
}

// slowBlame returns the skiers to blame: the race without one has none of the
// readings, and no one at all in the place.
func slowBlame(r chip.Race) []int {
	var blame []int
	for skier := range r.Starts {
		less := r
		less.Starts = slices.Delete(slices.Clone(r.Starts), skier, skier+1)
		less.Readings = nil
		for _, x := range r.Readings {
			if x.Skier == skier {
				continue
			}
			if x.Skier > skier {
				x.Skier--
			}
			less.Readings = append(less.Readings, x)
		}
		if slowSound(less) {
			blame = append(blame, skier)
		}
	}
	return blame
}

// slowStep returns from where to where a step leads, and what it counts; nothing
// if there is no such step.
func slowStep(r chip.Race, s chip.Step) (from, to string, counts int) {
	spot := func(skier, mat int) string { return fmt.Sprint("spot ", skier, mat) }
	clock := func(k int) string { return fmt.Sprint("clock ", k) }
	isSkier := 0 <= s.Skier && s.Skier < len(r.Starts)
	up := s.Up
	switch {
	case s.Kind == chip.Start && isSkier && s.Index == 0 && up:
		return "Zero", spot(s.Skier, 0), r.Starts[s.Skier]
	case s.Kind == chip.Start && isSkier && s.Index == 0:
		return spot(s.Skier, 0), "Zero", -r.Starts[s.Skier]
	case s.Kind == chip.Split && isSkier && 0 <= s.Index && s.Index < len(r.Splits) && up:
		return spot(s.Skier, s.Index), spot(s.Skier, s.Index+1), r.Splits[s.Index].Hi
	case s.Kind == chip.Split && isSkier && 0 <= s.Index && s.Index < len(r.Splits):
		return spot(s.Skier, s.Index+1), spot(s.Skier, s.Index), -r.Splits[s.Index].Lo
	case s.Kind == chip.Offset && s.Skier == 0 && 0 <= s.Index && s.Index < len(r.Clocks) && up:
		return "Zero", clock(s.Index), -r.Clocks[s.Index].Offset.Lo
	case s.Kind == chip.Offset && s.Skier == 0 && 0 <= s.Index && s.Index < len(r.Clocks):
		return clock(s.Index), "Zero", r.Clocks[s.Index].Offset.Hi
	case s.Kind == chip.Read && s.Skier == 0 && 0 <= s.Index && s.Index < len(r.Readings):
		x := r.Readings[s.Index]
		if e := r.Clocks[x.Clock].Error; up {
			return clock(x.Clock), spot(x.Skier, x.Mat), x.Time + e
		} else {
			return spot(x.Skier, x.Mat), clock(x.Clock), e - x.Time
		}
	}
	return "", "", 0
}

// slowChain returns the sum of a chain, and whether it leads from a spot to another one.
func slowChain(r chip.Race, from, to chip.Spot, chain []chip.Step) (int, bool) {
	place := func(s chip.Spot) string { return fmt.Sprint("spot ", s.Skier, s.Mat) }
	now, sum := place(from), 0
	for _, s := range chain {
		first, last, counts := slowStep(r, s)
		if first == "" || first != now {
			return 0, false
		}
		now = last
		sum += counts
	}
	return sum, now == place(to)
}

// slowClosed returns the sum of a chain, and whether it is closed.
func slowClosed(r chip.Race, chain []chip.Step) (int, bool) {
	sum := 0
	for k, s := range chain {
		_, last, counts := slowStep(r, s)
		next, _, _ := slowStep(r, chain[(k+1)%len(chain)])
		if last == "" || last != next {
			return 0, false
		}
		sum += counts
	}
	return sum, len(chain) > 0
}

// isClash reports whether a chain shows that there is no truth.
func isClash(r chip.Race, chain []chip.Step) bool {
	sum, closed := slowClosed(r, chain)
	return closed && sum < 0 && len(chain) <= chip.MaxSteps
}

// someSpan returns a span of a few numbers, from at least lo on.
func someSpan(g *rand.Rand, lo int) api.Span {
	from := lo + g.Intn(4)
	return span(from, from+g.Intn(3))
}

// someRace returns a small race whose readings are around what happened, more or
// less wrong than the errors allow.
func someRace(g *rand.Rand, wrong int) chip.Race {
	r := chip.Race{}
	for range 1 + g.Intn(3) {
		r.Starts = append(r.Starts, 5+g.Intn(4))
	}
	for range g.Intn(3) {
		r.Splits = append(r.Splits, someSpan(g, 0))
	}
	for range g.Intn(3) {
		r.Clocks = append(r.Clocks, chip.Clock{Offset: someSpan(g, -3), Error: g.Intn(2)})
	}
	readSome(g, &r, 6, wrong)
	return r
}

// someLarge returns a race with as much of all as there can be.
func someLarge(g *rand.Rand, wrong int) chip.Race {
	r := chip.Race{}
	for range chip.MaxSkiers {
		r.Starts = append(r.Starts, g.Intn(600))
	}
	for range chip.MaxMats - 1 {
		lo := g.Intn(300)
		r.Splits = append(r.Splits, span(lo, lo+g.Intn(200)))
	}
	for range chip.MaxClocks {
		lo := g.Intn(600) - 300
		r.Clocks = append(r.Clocks, chip.Clock{Offset: span(lo, lo+g.Intn(300)), Error: g.Intn(20)})
	}
	readSome(g, &r, chip.MaxReadings+1, wrong)
	return r
}

// someExtreme returns a race with numbers at the ends of what is allowed.
func someExtreme(g *rand.Rand) chip.Race {
	end := func(lo, hi int) int { return []int{lo, hi}[g.Intn(2)] }
	r := chip.Race{}
	for range chip.MaxSkiers {
		r.Starts = append(r.Starts, end(0, chip.MaxTime))
	}
	for range chip.MaxMats - 1 {
		r.Splits = append(r.Splits, span(end(0, end(0, chip.MaxTime)), chip.MaxTime))
	}
	for range chip.MaxClocks {
		r.Clocks = append(r.Clocks, chip.Clock{Offset: span(-chip.MaxOffset, end(-chip.MaxOffset, chip.MaxOffset)), Error: end(0, chip.MaxError)})
	}
	for range g.Intn(4) {
		r.Readings = append(r.Readings, reading(g.Intn(8), g.Intn(8), g.Intn(4), end(0, chip.MaxTime)))
	}
	return r
}

// readSome gives a race fewer readings than most.
func readSome(g *rand.Rand, r *chip.Race, most, wrong int) {
	if len(r.Clocks) == 0 {
		return
	}
	from := func(s api.Span) int { return s.Lo + g.Intn(s.Hi-s.Lo+1) }
	t := truth{times: make([][]int, len(r.Starts))}
	for skier, start := range r.Starts {
		t.times[skier] = []int{start}
		for k, s := range r.Splits {
			t.times[skier] = append(t.times[skier], t.times[skier][k]+from(s))
		}
	}
	for _, c := range r.Clocks {
		t.offsets = append(t.offsets, from(c.Offset))
	}
	for range g.Intn(most) {
		x := reading(g.Intn(len(r.Starts)), g.Intn(len(r.Splits)+1), g.Intn(len(r.Clocks)), 0)
		e := r.Clocks[x.Clock].Error
		if g.Intn(3) == 0 {
			e += wrong
		}
		x.Time = max(0, t.times[x.Skier][x.Mat]+t.offsets[x.Clock]+from(span(-e, e)))
		r.Readings = append(r.Readings, x)
	}
}
