package jury_test

import (
	"math"
	"math/rand"
	"slices"
	"testing"

	"klister/api"
	"klister/jury"
)

// claims returns a record with so many open claims of 10 about the first skier.
func claims(size int) jury.Record {
	r := trio()
	for k := range size {
		r.Decisions = append(r.Decisions, own(k+1, jury.Claim, 1, 10))
	}
	return r
}

// isOutcome compares the result in an outcome with what is expected.
func isOutcome(t *testing.T, r jury.Record, upheld []int, want []jury.Line) {
	t.Helper()
	if result, e := jury.Outcome(r, upheld); !slices.Equal(result, want) || e != api.OK {
		t.Error(r, upheld, result, e)
	}
}

// P9.5: results in outcomes.
func TestOutcome(t *testing.T) {
	r := trio(append(disputed(), own(3, jury.Claim, 1, 50), own(4, jury.Claim, 2, 150))...)
	isOutcome(t, r, nil, lines(2, 1, 15100, 3, 2, 15200, 1, 3, 15300))
	isOutcome(t, r, []int{2}, lines(1, 1, 15000, 2, 2, 15100, 3, 3, 15200))
	isOutcome(t, r, []int{2, 3}, lines(1, 1, 15050, 2, 2, 15100, 3, 3, 15200))
	isOutcome(t, r, []int{2, 3, 4}, lines(1, 1, 15050, 3, 2, 15200, 2, 3, 15250))
	isOutcome(t, r, []int{3, 4}, lines(3, 1, 15200, 2, 2, 15250, 1, 3, 15350))
	for i, x := range []struct {
		upheld []int
		want   api.Errno
	}{
		{[]int{1}, api.ErrUnknown},
		{[]int{2, 5}, api.ErrUnknown},
		{[]int{0}, api.ErrUnknown},
		{[]int{-1, 2}, api.ErrUnknown},
		{[]int{3, 2, 5}, api.ErrUnknown},
		{[]int{3, 3, 1}, api.ErrUnknown},
		{[]int{3, 2}, api.ErrOrder},
		{[]int{3, 3}, api.ErrOrder},
		{[]int{2, 4, 3}, api.ErrOrder},
	} {
		if result, e := jury.Outcome(r, x.upheld); len(result) != 0 || e != x.want {
			t.Error(i, result, e)
		}
	}
	// what is decided or late is not open
	for _, d := range []jury.Decision{about(3, jury.Dismiss, 2), about(3, jury.Uphold, 2), about(3, jury.Cancel, 2)} {
		if result, e := jury.Outcome(trio(append(disputed(), d)...), []int{2}); len(result) != 0 || e != api.ErrUnknown {
			t.Error(d, result, e)
		}
	}
	if result, e := jury.Outcome(trio(at(31, own(1, jury.Claim, 1, 9))), []int{1}); len(result) != 0 || e != api.ErrUnknown {
		t.Error(result, e)
	}
	// more open decisions than others allow
	isOutcome(t, claims(40), []int{1, 7, 40}, lines(1, 1, 15030, 2, 2, 15100, 3, 3, 15200))
}

// P9.5: in an outcome, open decisions depend on each other.
func TestOutcomeOfProtestsAboutOthers(t *testing.T) {
	first := lines(1, 1, 15000, 2, 2, 15100, 3, 3, 15200)
	last := lines(2, 1, 15100, 3, 2, 15200, 1, 3, 15300)
	// a protest about a protest, and about a claim: what is cancelled has no effect
	r := trio(append(disputed(), about(3, jury.Protest, 2))...)
	isOutcome(t, r, []int{2}, first)
	isOutcome(t, r, []int{3}, last)
	isOutcome(t, r, []int{2, 3}, last)
	r = trio(own(1, jury.Claim, 1, 300), about(2, jury.Protest, 1))
	isOutcome(t, r, []int{1}, last)
	isOutcome(t, r, []int{1, 2}, first)
	// the Dismiss about 2 is cancelled, if a protest about its Cancel is not upheld
	r = trio(append(disputed(), about(3, jury.Dismiss, 2), about(4, jury.Cancel, 3), about(5, jury.Protest, 4))...)
	isOutcome(t, r, []int{2}, first)
	isOutcome(t, r, []int{5}, last)
	isOutcome(t, r, []int{2, 5}, last)
	// an Uphold that counts only in the outcome decides as well
	r = trio(append(disputed(), about(3, jury.Uphold, 2), about(4, jury.Cancel, 3), about(5, jury.Protest, 4))...)
	isOutcome(t, r, nil, last)
	isOutcome(t, r, []int{5}, first)
	isOutcome(t, r, []int{2, 5}, first)
	// what is open in the outcome only has no effect
	r = trio(append(disputed(), about(3, jury.Uphold, 2), about(4, jury.Cancel, 3), about(5, jury.Cancel, 4), about(6, jury.Protest, 5))...)
	isOutcome(t, r, nil, first)
	isOutcome(t, r, []int{6}, last)
	// a protest about an Uphold or a Dismiss is open, and has no effect
	r = trio(append(disputed(), about(3, jury.Uphold, 2), about(4, jury.Protest, 3))...)
	isOutcome(t, r, []int{4}, first)
}

// isPlaced compares the places of a skier with what is expected, and looks for
// each place in a scenario.
func isPlaced(t *testing.T, r jury.Record, bib int, want []int, wantOut bool) {
	t.Helper()
	places, out, e := jury.Places(r, bib)
	if !slices.Equal(places, want) || out != wantOut || e != api.OK {
		t.Error(r, bib, places, out, e)
	}
	for place := -2; place <= len(r.Skiers)+1; place++ {
		scenario, e := jury.Scenario(r, bib, place)
		if is := slices.Contains(want, place) || place == jury.None && wantOut; !is {
			if len(scenario) != 0 || e != api.ErrNone {
				t.Error(r, bib, place, scenario, e)
			}
			continue
		}
		result, f := jury.Outcome(r, scenario)
		if e != api.OK || f != api.OK || placeIn(result, bib) != place {
			t.Error(r, bib, place, scenario, result, e, f)
		}
	}
}

// P9.5: the places of the examples.
func TestPlacesOfExample(t *testing.T) {
	r := trio(disputed()...)
	isPlaced(t, r, 1, []int{1, 3}, false)
	isPlaced(t, r, 2, []int{1, 2}, false)
	isPlaced(t, r, 3, []int{2, 3}, false)
	if is, e := jury.Matters(r, 2); !is || e != api.OK {
		t.Error(is, e)
	}
}

// P9.5: places of those who can be out, surely are, or share a place.
func TestPlaces(t *testing.T) {
	r := trio(own(1, jury.Out, 1, 0), about(2, jury.Protest, 1), own(3, jury.Bonus, 3, 200), own(4, jury.Claim, 2, 100))
	isPlaced(t, r, 1, []int{1}, true)
	isPlaced(t, r, 2, []int{2, 3}, false)
	isPlaced(t, r, 3, []int{1}, false)
	r.Skiers[0].Time = jury.None
	isPlaced(t, r, 1, nil, true)
	isPlaced(t, r, 2, []int{2}, false)
	isPlaced(t, trio(), 2, []int{2}, false)
	isPlaced(t, claims(8), 1, []int{1}, false)
}

// P9.5: errors of Places and Scenario, and for them the greatest number of open decisions.
func TestPlacesErrors(t *testing.T) {
	for _, x := range []struct {
		r    jury.Record
		bib  int
		want api.Errno
	}{
		{trio(disputed()...), 4, api.ErrUnknown},
		{claims(9), 4, api.ErrUnknown},
		{claims(9), 1, api.ErrLarge},
		{claims(40), 3, api.ErrLarge},
	} {
		places, out, e := jury.Places(x.r, x.bib)
		scenario, f := jury.Scenario(x.r, x.bib, 77)
		if len(places) != 0 || out || len(scenario) != 0 || e != x.want || f != x.want {
			t.Error(x.want, places, out, scenario, e, f)
		}
	}
	for _, place := range []int{math.MinInt, -2, -1, 0, 2, 4, math.MaxInt} {
		if scenario, e := jury.Scenario(trio(), 1, place); len(scenario) != 0 || e != api.ErrNone {
			t.Error(place, scenario, e)
		}
	}
	// nine protests and claims, of which eight are open
	r := claims(9)
	r.Decisions = append(r.Decisions, about(50, jury.Dismiss, 3))
	if places, _, e := jury.Places(r, 1); !slices.Equal(places, []int{1}) || e != api.OK {
		t.Error(places, e)
	}
}

// P9.5: an open decision matters if it changes a result, of places or of totals.
func TestMatters(t *testing.T) {
	for i, x := range []struct {
		decisions []jury.Decision
		want      map[int]bool
	}{
		{disputed(), map[int]bool{2: true}},
		{[]jury.Decision{own(1, jury.Claim, 3, 1)}, map[int]bool{1: true}},
		{[]jury.Decision{own(1, jury.Claim, 3, 0)}, map[int]bool{1: false}},
		{[]jury.Decision{own(1, jury.Claim, 3, 1), own(2, jury.Out, 3, 0)}, map[int]bool{1: false}},
		{[]jury.Decision{own(1, jury.Claim, 3, 1), own(2, jury.Out, 3, 0), about(3, jury.Protest, 2)}, map[int]bool{1: true, 3: true}},
		{[]jury.Decision{own(1, jury.Claim, 3, 1), own(2, jury.Bonus, 3, 36000)}, map[int]bool{1: false}},
		{[]jury.Decision{about(2, jury.Protest, 1)}, map[int]bool{2: false}},
		{append(disputed(), about(3, jury.Protest, 2)), map[int]bool{2: true, 3: true}},
		{append(disputed(), about(3, jury.Protest, 2), about(4, jury.Uphold, 2), about(5, jury.Protest, 4)), map[int]bool{3: true, 5: false}},
		// each if the other one about the same penalty is not upheld
		{append(disputed(), about(3, jury.Protest, 1)), map[int]bool{2: true, 3: true}},
		// never, since the penalty is one of 0
		{append(disputed(), replace(3, 1, 0)), map[int]bool{2: false}},
	} {
		r := trio(x.decisions...)
		for number := -1; number < 8; number++ {
			want, open := x.want[number]
			is, e := jury.Matters(r, number)
			if is != want || open != (e == api.OK) || !open && e != api.ErrUnknown {
				t.Error(i, number, is, e)
			}
		}
	}
	for size, want := range map[int]api.Errno{8: api.OK, 9: api.ErrLarge} {
		if is, e := jury.Matters(claims(size), size); e != want || is != (e == api.OK) {
			t.Error(size, is, e)
		}
		if is, e := jury.Matters(claims(size), size+1); e != api.ErrUnknown || is {
			t.Error(size, is, e)
		}
	}
}

// P9.5: random records, compared with the slow reading of all outcomes.
func TestOutcomesOfRandomRecords(t *testing.T) {
	g := rand.New(rand.NewSource(4))
	several := 0
	for range 1500 {
		r := someRecord(g, 4, 7)
		open := judge(r, nil).openOf()
		outcomes := outcomesOf(open)
		matters := map[int]bool{}
		var results [][]jury.Line
		for _, upheld := range outcomes {
			result := judge(r, upheld).resultOf()
			isOutcome(t, r, upheld, result)
			results = append(results, result)
		}
		for a := range outcomes {
			for k, n := range open {
				// the outcomes come in the order of the sets of open decisions
				if b := a | 1<<k; b != a && !slices.Equal(results[a], results[b]) {
					matters[n] = true
				}
			}
		}
		for _, s := range r.Skiers {
			var places []int
			out := false
			for place := range len(r.Skiers) {
				if slices.ContainsFunc(results, func(l []jury.Line) bool { return placeIn(l, s.Bib) == place+1 }) {
					places = append(places, place+1)
				}
			}
			for _, result := range results {
				out = out || placeIn(result, s.Bib) == jury.None
			}
			isPlaced(t, r, s.Bib, places, out)
			if len(places) > 1 {
				several++
			}
		}
		for _, n := range open {
			if is, e := jury.Matters(r, n); is != matters[n] || e != api.OK {
				t.Fatal(r, n, is, e)
			}
		}
	}
	if several < 300 {
		t.Error("too few cases", several)
	}
}
