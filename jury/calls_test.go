package jury_test

import (
	"math"
	"math/rand"
	"reflect"
	"slices"
	"testing"

	"klister/api"
	"klister/jury"
)

// anyone returns numbers at which something ends, or that no one would pass.
type anyone struct{ *rand.Rand }

func (g anyone) number() int {
	all := []int{math.MinInt, -2, -1, 0, 0, 0, 1, 1, 1, 2, 2, 3, 4, 5, 6, 7, 8, 9, 10, 11, 30, 40, 999, 1000, 9999, 10000, 10001, 36000, 36001, 360000, 360001, math.MaxInt}
	return all[g.Intn(len(all))]
}

// numbers returns a list of a few numbers.
func (g anyone) numbers() []int {
	var list []int
	for range g.Intn(5) {
		list = append(list, g.number())
	}
	return list
}

// decision returns a decision that is hardly ever allowed.
func (g anyone) decision() jury.Decision {
	return jury.Decision{Number: g.number(), Kind: jury.Kind(g.number()), Minute: g.number(), Bib: g.number(), Much: g.number(), About: g.number()}
}

// record returns a record that is mostly allowed.
func (g anyone) record() jury.Record {
	r := someRecord(g.Rand, 5, 12)
	switch g.Intn(16) {
	case 0:
		r.Deadline = g.number()
	case 1:
		r.Skiers = append(r.Skiers, jury.Skier{Bib: g.number(), Time: g.number()})
	case 2:
		r.Skiers = r.Skiers[:0]
	case 3:
		r.Decisions = append(r.Decisions, g.decision())
	case 4:
		r.Decisions = append(r.Decisions, make([]jury.Decision, g.Intn(45))...)
	case 5:
		for k := range r.Decisions {
			r.Decisions[k].Kind = jury.Kind(g.Intn(10))
		}
	case 6:
		for k := range r.Decisions {
			r.Decisions[k].About = g.Intn(5)
		}
	}
	return r
}

// P0.1: no call panics, all end, and beside an error all results are zero (R2).
func TestAllArguments(t *testing.T) {
	g := anyone{rand.New(rand.NewSource(10))}
	zero := func(e api.Errno, results ...any) {
		t.Helper()
		for _, x := range results {
			if v := reflect.ValueOf(x); e != api.OK && !v.IsZero() && !(v.Kind() == reflect.Slice && v.Len() == 0) {
				t.Fatal("a result beside an error", e, results)
			}
		}
	}
	one := func(result any, e api.Errno) { t.Helper(); zero(e, result) }
	lists := func(list []int, e api.Errno) { t.Helper(); zero(e, list) }
	for range 4000 {
		r, n := g.record(), g.number()
		jury.Check(r)
		longer, e := jury.Add(r, g.decision())
		one(longer, e)
		sorted, e := jury.Sorted(r)
		one(sorted, e)
		lists(jury.Late(r))
		lists(jury.Counting(r))
		lists(jury.Open(r))
		much, e := jury.Much(r, n)
		one(much, e)
		bib, e := jury.Subject(r, n)
		one(bib, e)
		total, out, e := jury.Total(r, n)
		zero(e, total, out)
		result, e := jury.Result(r)
		one(result, e)
		lists(jury.Core(r, n))
		is, e := jury.Explains(r, n, g.numbers())
		one(is, e)
		result, e = jury.Outcome(r, g.numbers())
		one(result, e)
		places, out, e := jury.Places(r, n)
		zero(e, places, out)
		lists(jury.Scenario(r, n, g.number()))
		is, e = jury.Matters(r, n)
		one(is, e)
		lists(jury.Can(r, n))
		lists(jury.Must(r, n))
		settled, e := jury.Settled(r)
		one(settled, e)
	}
}

// chain returns a record with a penalty and 39 decisions each of which is about the one before.
func chain(k jury.Kind) jury.Record {
	r := trio(own(1, jury.Penalty, 1, 300))
	for number := 2; number <= 40; number++ {
		r.Decisions = append(r.Decisions, about(number, k, number-1))
	}
	return r
}

// P0.1: long chains end.
func TestLongChains(t *testing.T) {
	isTotal := func(r jury.Record, want int) {
		t.Helper()
		if total, _, e := jury.Total(r, 1); total != want || e != api.OK {
			t.Error(total, e)
		}
	}
	isTotal(chain(jury.Cancel), 15000)
	isTotal(chain(jury.Uphold), 15300)
	replaces := chain(jury.Replace)
	replaces.Decisions[39].Much = 40
	isTotal(replaces, 15040)
	if core, e := jury.Core(replaces, 1); len(core) != 40 || e != api.OK {
		t.Error(core, e)
	}
	protests := chain(jury.Protest)
	open, e := jury.Open(protests)
	if len(open) != 39 || e != api.OK {
		t.Error(open, e)
	}
	isOutcome(t, protests, nil, lines(2, 1, 15100, 3, 2, 15200, 1, 3, 15300))
	isOutcome(t, protests, open, lines(1, 1, 15000, 2, 2, 15100, 3, 3, 15200))
	isOutcome(t, protests, open[:38], lines(2, 1, 15100, 3, 2, 15200, 1, 3, 15300))
}

// R4: arguments are not modified, and results are new.
func TestMemory(t *testing.T) {
	same := func() jury.Record {
		r := trio(own(3, jury.Claim, 3, 5), disputed()[1], disputed()[0])
		slices.Reverse(r.Skiers)
		r.Skiers, r.Decisions = append(make([]jury.Skier, 0, 9), r.Skiers...), append(make([]jury.Decision, 0, 9), r.Decisions...)
		return r
	}
	r, numbers, upheld := same(), []int{3, 1, 1}, []int{2, 3}
	for range 2 {
		longer, e := jury.Add(r, own(4, jury.Bonus, 2, 5))
		other, f := jury.Add(r, own(5, jury.Bonus, 2, 5))
		sorted, h := jury.Sorted(r)
		if e != api.OK || f != api.OK || h != api.OK || longer.Decisions[3].Number != 4 || other.Decisions[3].Number != 5 {
			t.Fatal(longer, other, sorted, e, f, h)
		}
		open, _ := jury.Open(r)
		result, _ := jury.Result(r)
		outcome, _ := jury.Outcome(r, upheld)
		settled, _ := jury.Settled(r)
		places, _, _ := jury.Places(r, 1)
		scenario, _ := jury.Scenario(r, 1, 1)
		can, _ := jury.Can(r, 1)
		core, _ := jury.Core(r, 1)
		jury.Explains(r, 1, numbers)
		jury.Matters(r, 2)
		jury.Must(r, 1)
		if !slices.Equal(open, upheld) || len(result) != 3 || len(outcome) != 3 || len(settled) != 0 || !slices.Equal(places, []int{1, 3}) || scenario[0] != 2 || !slices.Equal(can, []int{1, 2}) || !slices.Equal(core, []int{1}) {
			t.Fatal(open, result, outcome, settled, places, scenario, can, core)
		}
		for _, list := range [][]int{open, places, scenario, can, core} {
			clear(list)
		}
		clear(result)
		clear(outcome)
		for _, record := range []jury.Record{longer, other, sorted} {
			clear(record.Skiers)
			clear(record.Decisions)
		}
		if !reflect.DeepEqual(r, same()) || !slices.Equal(numbers, []int{3, 1, 1}) || !slices.Equal(upheld, []int{2, 3}) {
			t.Fatal("an argument was modified")
		}
		if behind := r.Decisions[:4][3]; behind != (jury.Decision{}) {
			t.Fatal("memory behind an argument was modified")
		}
	}
}

// R6: all results are the same at each call.
func TestSameResults(t *testing.T) {
	g := rand.New(rand.NewSource(11))
	for range 60 {
		r := someRecord(g, 6, 20)
		if first := all(r); first != all(r) {
			t.Fatal(r, first)
		}
	}
}
