package relay_test

import (
	"math/rand"
	"slices"
	"testing"

	"klister/api"
	"klister/relay"
	"klister/start"
)

// isScored compares the results of a race with the slow reading, and returns them.
func isScored(t *testing.T, r relay.Race) []relay.Result {
	t.Helper()
	outs, e := relay.Out(r)
	broken, f := relay.Breaks(r)
	results, h := relay.Results(r)
	wantOuts, _ := start.Lapped(lapsOf(r))
	if !slices.Equal(outs, wantOuts) || !same(broken, breaksOf(r)) || !slices.Equal(results, resultsOf(r)) || e != api.OK || f != api.OK || h != api.OK {
		t.Fatal(r, outs, broken, results, e, f, h)
	}
	return results
}

// P8.5: the results of the second and the third example.
func TestResultsOfDuel(t *testing.T) {
	r := duel()
	want := []relay.Result{{Bib: 7, Place: 1, Time: 4600}, {Bib: 3, Place: 2, Time: 8400}}
	if results := isScored(t, r); !slices.Equal(results, want) {
		t.Error(results)
	}
	slices.Reverse(r.Teams)
	if results := isScored(t, r); !slices.Equal(results, want) {
		t.Error(results)
	}
}

// P8.5: unused rounds of all bouts of all legs are in the final time, and
// decide about the place.
func TestUnused(t *testing.T) {
	r := duel()
	r.Start = 300
	r.Teams[0].Legs[0].Bouts[0] = bout("oxxxxo")
	r.Teams[0].Legs[1].Bouts[0] = bout("xxxxooo")
	// on the course: 1000, 100 and 250, 1100, 900, 200 and 250, 950; two rounds and one were not fired
	want := []relay.Result{{Bib: 3, Place: 1, Time: 8700}, {Bib: 7, Place: 2, Time: 300 + 4750 + 3*1200 + 51}}
	r.Teams[0].Legs[1].Loops[1] += 51
	if results := isScored(t, r); !slices.Equal(results, want) {
		t.Error(results)
	}
	r.Teams[0].Legs[1].Loops[1]--
	want = []relay.Result{{Bib: 3, Place: 1, Time: 8700}, {Bib: 7, Place: 1, Time: 8700}}
	if results := isScored(t, r); !slices.Equal(results, want) {
		t.Error(results)
	}
	r.Teams[0].Legs[1].Loops[1]--
	want = []relay.Result{{Bib: 7, Place: 1, Time: 8699}, {Bib: 3, Place: 2, Time: 8700}}
	if results := isScored(t, r); !slices.Equal(results, want) {
		t.Error(results)
	}
}

// lane returns a team of one skier whose legs have one lap each.
func lane(bib int, loops ...int) relay.Team {
	t := relay.Team{Bib: bib, Classes: []int{0}}
	for _, loop := range loops {
		t.Legs = append(t.Legs, leg(0, loop))
	}
	return t
}

// P8.5: all who do not finish come last, with more laps that count first; whoever
// is taken out does not finish, and laps that do not count are not finished.
func TestResultsInOrder(t *testing.T) {
	r := relay.Race{Rules: relay.Rules{Classes: make([]int, 4), Each: 4, Laps: 1}, Teams: []relay.Team{
		lane(8, 100, 100, 100, 100),
		lane(5, 100, 205, 5, 1),       // out at 300 with one lap, and at the finish first
		lane(4, 250, 10, 10, 10),      // out at 200 without a lap
		lane(6, 110, 110, 110, 110),   // third
		lane(2, 90, 110, 100, 100),    // first with 8
		lane(1, 110, 110, 9000),       // out at 400 with two laps
		lane(7, 150),                  // out at 300 with one lap
		lane(3),                       // out at 200 without a lap
		lane(9, 110, 110, 110, 9000),  // fourth, since nobody is lapped on the last lap
		lane(12, 110, 110, 150),       // three laps, and no more
		lane(11, 110, 110, 150, 9000), // fifth
	}}
	want := []relay.Result{
		{Bib: 2, Place: 1, Time: 400}, {Bib: 8, Place: 1, Time: 400}, {Bib: 6, Place: 3, Time: 440},
		{Bib: 9, Place: 4, Time: 9330}, {Bib: 11, Place: 5, Time: 9370},
		{Bib: 12}, {Bib: 1}, {Bib: 5}, {Bib: 7}, {Bib: 3}, {Bib: 4},
	}
	if results := isScored(t, r); !slices.Equal(results, want) {
		t.Error(results)
	}
	outs := []start.Out{{Bib: 3, Time: 200, By: 2}, {Bib: 4, Time: 200, By: 2}, {Bib: 5, Done: 1, Time: 300, By: 2}, {Bib: 7, Done: 1, Time: 300, By: 2}, {Bib: 1, Done: 2, Time: 400, By: 2}}
	if got, e := relay.Out(r); !slices.Equal(got, outs) || e != api.OK {
		t.Error(got, e)
	}
}

// P8.5: a team is not lapped if it finishes its lap at the same time, but if it
// does so a tenth later.
func TestJustInTime(t *testing.T) {
	r := relay.Race{Start: 1000, Rules: relay.Rules{Classes: make([]int, 2), Each: 4, Laps: 1}, Teams: []relay.Team{lane(1, 100, 100), lane(2, 200, 100)}}
	if results := isScored(t, r); !slices.Equal(results, []relay.Result{{Bib: 1, Place: 1, Time: 1200}, {Bib: 2, Place: 2, Time: 1300}}) {
		t.Error(results)
	}
	r.Teams[1] = lane(2, 201, 100)
	if results := isScored(t, r); !slices.Equal(results, []relay.Result{{Bib: 1, Place: 1, Time: 1200}, {Bib: 2}}) {
		t.Error(results)
	}
}

// P8.5: legs that break the rules, by a class or by too many legs of one skier;
// also a leg that is only begun.
func TestBreaks(t *testing.T) {
	rules := relay.Rules{Classes: []int{0, 1, 0, 1}, Each: 2, Laps: 1}
	team := func(bib int, skiers ...int) relay.Team {
		t := relay.Team{Bib: bib, Classes: []int{0, 1, 0, 1, 3}}
		for k, skier := range skiers {
			l := leg(skier, 10)
			if k == 3 {
				l = leg(skier)
			}
			t.Legs = append(t.Legs, l)
		}
		return t
	}
	for i, x := range []struct {
		each   int
		skiers []int
		want   []int
	}{
		{2, []int{0, 1, 2, 3}, nil},
		{2, []int{0, 1, 0, 1}, nil},
		{1, []int{0, 1, 0, 1}, []int{2, 3}},
		{2, []int{1, 1, 2, 1}, []int{0, 3}},
		{1, []int{0, 0, 0, 0}, []int{1, 2, 3}},
		{4, []int{0, 0, 0, 0}, []int{1, 3}},
		{4, []int{4, 4, 4, 4}, []int{0, 1, 2, 3}},
		{1, []int{0, 1}, nil},
		{1, nil, nil},
		{1, []int{3, 3}, []int{0, 1}},
	} {
		rules.Each = x.each
		r := relay.Race{Rules: rules, Teams: []relay.Team{team(5, 0, 1, 2, 3), team(2, x.skiers...)}}
		if broken, e := relay.Breaks(r); !same(broken, [][]int{nil, x.want}) || e != api.OK {
			t.Error(i, broken, e)
		}
		isScored(t, r)
	}
}

// P8.5 and P8.8: random races; whoever finishes has the same place as all who
// finish with the same final time, and no other.
func TestResultsOfRandomRaces(t *testing.T) {
	g := rand.New(rand.NewSource(2))
	equal, outs := 0, 0
	for range 5000 {
		r := someRace(g, 6)
		results := isScored(t, r)
		out, _ := relay.Out(r)
		outs += len(out)
		for i, a := range results {
			for _, b := range results[:i] {
				if a.Place > 0 && (a.Place == b.Place) != (a.Time == b.Time) {
					t.Fatal(r, results)
				}
				if a.Place > 0 && a.Place == b.Place {
					equal++
				}
			}
		}
	}
	if equal < 100 || outs < 100 {
		t.Error("too few cases", equal, outs)
	}
}
