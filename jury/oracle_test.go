package jury_test

import (
	"math/rand"
	"slices"

	"klister/api"
	"klister/jury"
)

// second returns the error of a call with one other result.
func second[T any](_ T, e api.Errno) api.Errno { return e }

// third returns the error of a call with two other results.
func third[T, V any](_ T, _ V, e api.Errno) api.Errno { return e }

// own returns a decision about a skier.
func own(number int, k jury.Kind, bib, much int) jury.Decision {
	return jury.Decision{Number: number, Kind: k, Bib: bib, Much: much}
}

// about returns a decision about another one.
func about(number int, k jury.Kind, of int) jury.Decision {
	return jury.Decision{Number: number, Kind: k, About: of}
}

// replace returns a Replace of another decision.
func replace(number, of, much int) jury.Decision {
	return jury.Decision{Number: number, Kind: jury.Replace, About: of, Much: much}
}

// at returns a decision of a minute.
func at(minute int, d jury.Decision) jury.Decision {
	d.Minute = minute
	return d
}

// trio returns the record of the examples with some decisions.
func trio(decisions ...jury.Decision) jury.Record {
	return jury.Record{Deadline: 30, Skiers: []jury.Skier{{Bib: 1, Time: 15000}, {Bib: 2, Time: 15100}, {Bib: 3, Time: 15200}}, Decisions: decisions}
}

// disputed returns the decisions of the first example.
func disputed() []jury.Decision {
	return []jury.Decision{own(1, jury.Penalty, 1, 300), at(10, about(2, jury.Protest, 1))}
}

// lines returns the lines of a text of bibs, places and totals.
func lines(numbers ...int) []jury.Line {
	var list []jury.Line
	for l := range slices.Chunk(numbers, 3) {
		list = append(list, jury.Line{Bib: l[0], Place: l[1], Total: l[2]})
	}
	return list
}

// judged is a record in which it is said of each decision whether it counts,
// in an outcome.
type judged struct {
	jury.Record
	counts []bool
	upheld []int
}

// rulingOf returns the number in the list of what decides a decision, or -1.
func (j judged) rulingOf(number int) int {
	ruling := -1
	for k, d := range j.Decisions {
		if j.counts[k] && d.About == number && (d.Kind == jury.Uphold || d.Kind == jury.Dismiss) {
			if ruling < 0 || d.Number > j.Decisions[ruling].Number {
				ruling = k
			}
		}
	}
	return ruling
}

// isUpheld reports whether a protest or a claim is upheld.
func (j judged) isUpheld(number int) bool {
	if ruling := j.rulingOf(number); ruling >= 0 {
		return j.Decisions[ruling].Kind == jury.Uphold
	}
	return slices.Contains(j.upheld, number)
}

// isLate reports whether a decision is late.
func (j judged) isLate(d jury.Decision) bool {
	return (d.Kind == jury.Claim || d.Kind == jury.Protest) && d.Minute > j.Deadline
}

// fits reports whether what is said of each decision is what the terms say.
func (j judged) fits() bool {
	for k, d := range j.Decisions {
		cancelled := false
		for i, o := range j.Decisions {
			if !j.counts[i] || o.About != d.Number {
				continue
			}
			if o.Kind == jury.Cancel {
				cancelled = true
			}
			if o.Kind == jury.Protest && d.Kind != jury.Uphold && d.Kind != jury.Dismiss && j.isUpheld(o.Number) {
				cancelled = true
			}
		}
		if j.counts[k] != (!j.isLate(d) && !cancelled) {
			return false
		}
	}
	return true
}

// judge returns the only way to say of each decision whether it counts that
// fits, of all ways.
func judge(r jury.Record, upheld []int) judged {
	var found []judged
	for set := range 1 << len(r.Decisions) {
		j := judged{Record: r, upheld: upheld}
		for k := range r.Decisions {
			j.counts = append(j.counts, set>>k&1 == 1)
		}
		if j.fits() {
			found = append(found, j)
		}
	}
	if len(found) != 1 {
		panic("what counts is not clear")
	}
	return found[0]
}

// numbers returns the Numbers of some decisions of the record, in increasing order.
func (j judged) numbers(asked func(k int, d jury.Decision) bool) []int {
	var list []int
	for number := range jury.MaxNumber + 1 {
		for k, d := range j.Decisions {
			if d.Number == number && asked(k, d) {
				list = append(list, number)
			}
		}
	}
	return list
}

// openOf returns the open decisions.
func (j judged) openOf() []int {
	return j.numbers(func(k int, d jury.Decision) bool {
		return j.counts[k] && (d.Kind == jury.Claim || d.Kind == jury.Protest) && j.rulingOf(d.Number) < 0
	})
}

// replaceOf returns the Replace that gives the much of a decision.
func (j judged) replaceOf(number int) (jury.Decision, bool) {
	var last jury.Decision
	for k, d := range j.Decisions {
		if j.counts[k] && d.Kind == jury.Replace && d.About == number && d.Number > last.Number {
			last = d
		}
	}
	return last, last.Number > 0
}

// muchOf returns the much of a decision.
func (j judged) muchOf(d jury.Decision) int {
	if next, is := j.replaceOf(d.Number); is {
		return j.muchOf(next)
	}
	return d.Much
}

// hits reports whether a decision makes the total of a skier.
func (j judged) hits(k, bib int) bool {
	d := j.Decisions[k]
	return d.Bib == bib && j.counts[k] && (d.Kind != jury.Claim || j.isUpheld(d.Number))
}

// totalOf returns the total of a skier, or that the skier is out.
func (j judged) totalOf(bib int) (int, bool) {
	total, out := 0, false
	for _, s := range j.Skiers {
		if s.Bib == bib {
			total, out = s.Time, s.Time == jury.None
		}
	}
	for k, d := range j.Decisions {
		if !j.hits(k, bib) {
			continue
		}
		switch d.Kind {
		case jury.Penalty, jury.Claim:
			total += j.muchOf(d)
		case jury.Bonus:
			total -= j.muchOf(d)
		case jury.Loops:
			total += 1200 * j.muchOf(d)
		case jury.Out:
			out = true
		}
	}
	if out {
		return 0, true
	}
	return max(total, 0), false
}

// resultOf returns the result: for each place and then for those who are out,
// bib by bib.
func (j judged) resultOf() []jury.Line {
	placeOf := func(bib int) int {
		total, out := j.totalOf(bib)
		place := 1
		for _, s := range j.Skiers {
			if other, gone := j.totalOf(s.Bib); !gone && other < total {
				place++
			}
		}
		if out {
			return jury.None
		}
		return place
	}
	var bibs []int
	for _, s := range j.Skiers {
		bibs = append(bibs, s.Bib)
	}
	slices.Sort(bibs)
	var list []jury.Line
	for k := range len(bibs) + 1 {
		place := k + 1
		if k == len(bibs) {
			place = jury.None
		}
		for _, bib := range bibs {
			if placeOf(bib) == place {
				total, _ := j.totalOf(bib)
				list = append(list, jury.Line{Bib: bib, Place: place, Total: total})
			}
		}
	}
	return list
}

// coreOf returns the core of a skier: each decision that is a part of it.
func (j judged) coreOf(bib int) []int {
	var core []int
	for k, d := range j.Decisions {
		if !j.hits(k, bib) {
			continue
		}
		core = append(core, d.Number)
		for next, is := j.replaceOf(d.Number); is; next, is = j.replaceOf(next.Number) {
			core = append(core, next.Number)
		}
		if d.Kind == jury.Claim {
			core = append(core, j.Decisions[j.rulingOf(d.Number)].Number)
		}
	}
	slices.Sort(core)
	return core
}

// subjectOf returns the bib of the skier whom a decision concerns, or 0.
func subjectOf(r jury.Record, number int) int {
	for _, d := range r.Decisions {
		if d.Number == number {
			return max(d.Bib, subjectOf(r, d.About))
		}
	}
	return 0
}

// outcomesOf returns all outcomes, with or without each open decision.
func outcomesOf(open []int) [][]int {
	outcomes := [][]int{nil}
	for _, n := range open {
		for _, o := range outcomes {
			outcomes = append(outcomes, append(slices.Clone(o), n))
		}
	}
	return outcomes
}

// placeIn returns the place of a skier in a result.
func placeIn(result []jury.Line, bib int) int {
	return result[slices.IndexFunc(result, func(l jury.Line) bool { return l.Bib == bib })].Place
}

// someDecision returns a decision with a Number, about a skier or about a
// decision with a lesser Number.
func someDecision(g *rand.Rand, number int, r jury.Record) jury.Decision {
	kinds := []jury.Kind{jury.Penalty, jury.Bonus, jury.Loops, jury.Out, jury.Claim, jury.Claim, jury.Claim}
	d := jury.Decision{Number: number, Minute: g.Intn(6)}
	if number == 1 || g.Intn(3) == 0 {
		d.Kind = kinds[g.Intn(len(kinds))]
		d.Bib = r.Skiers[g.Intn(len(r.Skiers))].Bib
	} else {
		others := []jury.Kind{jury.Cancel, jury.Replace, jury.Protest, jury.Protest, jury.Protest, jury.Uphold, jury.Dismiss}
		d.Kind = others[g.Intn(len(others))]
		d.About = 1 + g.Intn(number-1)
	}
	if slices.Contains([]jury.Kind{jury.Penalty, jury.Bonus, jury.Claim, jury.Replace}, d.Kind) {
		d.Much = g.Intn(4) * 600
	}
	if d.Kind == jury.Loops {
		d.Much = g.Intn(3)
	}
	return d
}

// someRecord returns a record with at most so many skiers and decisions; the
// Numbers are close to each other, so that most decisions are about one there is.
func someRecord(g *rand.Rand, skiers, decisions int) jury.Record {
	r := jury.Record{Deadline: 4}
	bibs := g.Perm(skiers + 3)
	for k := range 1 + g.Intn(skiers) {
		time := g.Intn(5) * 600
		if g.Intn(8) == 0 {
			time = jury.None
		}
		r.Skiers = append(r.Skiers, jury.Skier{Bib: 1 + bibs[k], Time: time})
	}
	size := decisions - g.Intn(decisions+1)*g.Intn(2)
	for _, k := range g.Perm(size + 1)[:size] {
		r.Decisions = append(r.Decisions, someDecision(g, 1+k, r))
	}
	return r
}
