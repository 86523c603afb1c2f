package relay_test

import (
	"math/rand"
	"reflect"
	"slices"
	"testing"

	"klister/api"
	"klister/relay"
	"klister/start"
)

// isTimed compares all that is said of the times of a race with the slow reading.
func isTimed(t *testing.T, r relay.Race) {
	t.Helper()
	times, e := relay.Times(r)
	laps, f := relay.Laps(r)
	took, h := relay.Legs(r)
	wantTimes, wantTook := legsOf(r)
	if want := lapsOf(r); !same(times, wantTimes) || laps.Laps != want.Laps || !slices.Equal(laps.Bibs, want.Bibs) || !same(laps.Times, want.Times) || !same(took, wantTook) || e != api.OK || f != api.OK || h != api.OK {
		t.Fatal(r, times, laps, took, e, f, h)
	}
	for k := range r.Rules.Classes {
		places, e := relay.Places(r, k)
		bibs, least, f := relay.Fastest(r, k)
		wantBibs, wantLeast := fastestOf(r, wantTook, k)
		none := api.OK
		if len(wantBibs) == 0 {
			none = api.ErrNone
		}
		if !slices.Equal(places, placesOf(wantTimes, k)) || e != api.OK || !slices.Equal(bibs, wantBibs) || least != wantLeast || f != none {
			t.Fatal(r, k, places, e, bibs, least, f)
		}
	}
}

// P8.3 and P8.4: the second and the third example.
func TestDuel(t *testing.T) {
	r := duel()
	times, e := relay.Times(r)
	laps, f := relay.Laps(r)
	took, h := relay.Legs(r)
	if !same(times, [][]int{{2200, 4600}, {2150, 4800}}) || !same(took, [][]int{{2200, 2400}, {2150, 2650}}) || e != api.OK || f != api.OK || h != api.OK {
		t.Error(times, took, e, f, h)
	}
	if !reflect.DeepEqual(laps, start.Race{Laps: 4, Bibs: []int{7, 3}, Times: [][]int{{1000, 2200, 3100, 4600}, {1000, 2150, 3050, 4800}}}) {
		t.Error(laps)
	}
	for k, want := range [][]int{{2, 1}, {1, 2}} {
		if places, e := relay.Places(r, k); !slices.Equal(places, want) || e != api.OK {
			t.Error(k, places, e)
		}
	}
	bibs, least, e := relay.Fastest(r, 0)
	others, time, f := relay.Fastest(r, 1)
	if !slices.Equal(bibs, []int{3}) || least != 2150 || !slices.Equal(others, []int{7}) || time != 2400 || e != api.OK || f != api.OK {
		t.Error(bibs, least, others, time, e, f)
	}
	isTimed(t, r)
}

// P8.3: a leg that is not finished has times after its laps, but none at its end;
// the next leg begins at the exchange, wherever the race starts.
func TestOpenLegs(t *testing.T) {
	r := duel()
	r.Start = 500
	r.Teams[0].Legs[1] = leg(1, 900)
	r.Teams[1].Legs = []relay.Leg{leg(0)}
	r.Teams = append(r.Teams, relay.Team{Bib: 1, Classes: []int{0}})
	times, e := relay.Times(r)
	took, f := relay.Legs(r)
	laps, h := relay.Laps(r)
	if !same(times, [][]int{{2700}, nil, nil}) || !same(took, [][]int{{2200}, nil, nil}) || !same(laps.Times, [][]int{{1500, 2700, 3600}, nil, nil}) || e != api.OK || f != api.OK || h != api.OK {
		t.Error(times, took, laps, e, f, h)
	}
	if places, e := relay.Places(r, 0); !slices.Equal(places, []int{1, 0, 0}) || e != api.OK {
		t.Error(places, e)
	}
	bibs, least, e := relay.Fastest(r, 0)
	none, nought, f := relay.Fastest(r, 1)
	if !slices.Equal(bibs, []int{7}) || least != 2200 || e != api.OK || len(none) > 0 || nought != 0 || f != api.ErrNone {
		t.Error(bibs, least, e, none, nought, f)
	}
	isTimed(t, r)
}

// P8.3: a leg of one lap has no bout, and the rounds that were not fired are
// no part of a time on the course.
func TestShortLegs(t *testing.T) {
	r := relay.Race{Rules: relay.Rules{Classes: []int{0, 0, 0}, Each: 3, Laps: 1, Unused: 6000}, Teams: []relay.Team{{Bib: 1, Classes: []int{0}, Legs: []relay.Leg{leg(0, 7), leg(0, 1), leg(0, 9000)}}}}
	if times, e := relay.Times(r); !same(times, [][]int{{7, 8, 9008}}) || e != api.OK {
		t.Error(times, e)
	}
	isTimed(t, r)
	lazy := duel()
	lazy.Teams[1].Legs[1].Bouts[0] = bout("ooooo")
	if times, e := relay.Times(lazy); !same(times, [][]int{{2200, 4600}, {2150, 2150 + 900 + 5*250 + 1500}}) || e != api.OK {
		t.Error(times, e)
	}
}

// P8.4: the same place for the same time, and the least times of several teams
// by their bibs.
func TestEqualLegs(t *testing.T) {
	r := relay.Race{Rules: relay.Rules{Classes: []int{0, 0}, Each: 2, Laps: 1}}
	for _, x := range [][3]int{{9, 50, 40}, {4, 40, 50}, {6, 40, 45}, {2, 50, 40}, {5, 60, 40}} {
		r.Teams = append(r.Teams, relay.Team{Bib: x[0], Classes: []int{0}, Legs: []relay.Leg{leg(0, x[1]), leg(0, x[2])}})
	}
	for k, x := range []struct {
		places, bibs []int
	}{
		{[]int{3, 1, 1, 3, 5}, []int{4, 6}},
		{[]int{2, 2, 1, 2, 5}, []int{2, 5, 9}},
	} {
		places, e := relay.Places(r, k)
		bibs, least, f := relay.Fastest(r, k)
		if !slices.Equal(places, x.places) || !slices.Equal(bibs, x.bibs) || least != 40 || e != api.OK || f != api.OK {
			t.Error(k, places, bibs, least, e, f)
		}
	}
	isTimed(t, r)
}

// P8.4: legs of teams that are taken out count, before that and later.
func TestLegsOfWhoIsOut(t *testing.T) {
	r := relay.Race{Rules: relay.Rules{Classes: []int{0, 0, 0}, Each: 3, Laps: 1}, Teams: []relay.Team{
		{Bib: 1, Classes: []int{0}, Legs: []relay.Leg{leg(0, 100), leg(0, 100), leg(0, 100)}},
		{Bib: 2, Classes: []int{0}, Legs: []relay.Leg{leg(0, 201), leg(0, 50), leg(0, 40)}},
		{Bib: 3, Classes: []int{0}, Legs: []relay.Leg{leg(0, 150), leg(0, 145), leg(0, 20)}},
	}}
	if outs, e := relay.Out(r); !slices.Equal(outs, []start.Out{{Bib: 2, Done: 0, Time: 200, By: 1}}) || e != api.OK {
		t.Error(outs, e)
	}
	for k, x := range []struct {
		places []int
		bib    int
		least  int
	}{
		{[]int{1, 3, 2}, 1, 100},
		{[]int{1, 2, 3}, 2, 50},
		{[]int{2, 1, 3}, 3, 20},
	} {
		// the third leg: 300, 291 and 315
		places, e := relay.Places(r, k)
		bibs, least, f := relay.Fastest(r, k)
		if !slices.Equal(places, x.places) || !slices.Equal(bibs, []int{x.bib}) || least != x.least || e != api.OK || f != api.OK {
			t.Error(k, places, bibs, least, e, f)
		}
	}
	isTimed(t, r)
}

// P8.3 and P8.4: random races.
func TestTimesOfRandomRaces(t *testing.T) {
	g := rand.New(rand.NewSource(1))
	for range 4000 {
		isTimed(t, someRace(g, 6))
	}
}

// P8.3: the latest times that there can be are right, and allowed by package start.
func TestLatest(t *testing.T) {
	late := leg(0, 9000, 9000, 9000, 9000, 9000)
	late.Bouts = bouts("oooooooo", "oooooooo", "oooooooo", "oooooooo")
	r := relay.Race{Rules: relay.Rules{Classes: make([]int, 4), Each: 4, Laps: 5, Spare: 600, Loop: 600, Unused: 6000}, Start: 36000}
	for k := range 12 {
		r.Teams = append(r.Teams, relay.Team{Bib: 999 - k, Classes: []int{0}, Legs: []relay.Leg{late, late, late, late}})
	}
	times, e := relay.Times(r)
	if latest := 36000 + 4*(5*9000+4*(3+5)*600); times[11][3] != latest || e != api.OK {
		t.Error(times, latest, e)
	}
	laps, e := relay.Laps(r)
	if f := start.CheckRace(laps); e != api.OK || f != api.OK {
		t.Error(e, f)
	}
	isTimed(t, r)
	isScored(t, r)
}
