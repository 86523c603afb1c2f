package target_test

import (
	"math"
	"math/rand"
	"slices"
	"testing"

	"klister/api"
	"klister/target"
)

func step(k target.Kind, index int) target.Step { return target.Step{Kind: k, Index: index} }

// owes are the loops that are owed in the chapter's third example.
func owes() []int { return []int{2, 0, 1, 3} }

// proved checks Few and Round, by what must be.
func proved(t *testing.T, owed []int, l []target.Sheet, few, truth bool) {
	is, e := target.Few(owed, l)
	if is != few || e != api.OK {
		t.Fatal(owed, l, is, e)
	}
	round, e := target.Round(owed, l)
	if !few {
		if len(round) > 0 || e != api.ErrNone {
			t.Fatal(owed, l, round, e)
		}
		return
	}
	if e != api.OK || len(round) < 1 || len(round) > 40 {
		t.Fatal(owed, l, round, e)
	}
	sum, closed := roundOf(owed, l, round)
	if shows, e := target.RoundShows(owed, l, round); !closed || sum >= 0 || shows != sum || e != api.OK {
		t.Fatal(owed, l, round, sum, closed, shows, e)
	}
	if !truth && slices.ContainsFunc(round, func(s target.Step) bool { return s.Kind == target.Owed }) {
		t.Fatal("there is no truth at all", owed, l, round)
	}
}

// P3.5: example 3 of the chapter, and other loops that are owed.
func TestFew(t *testing.T) {
	pair := []target.Sheet{sheet(0, 2, 0, 3), sheet(1, 1, 2, 2)}
	for _, x := range []struct {
		owed       []int
		l          []target.Sheet
		few, truth bool
	}{
		{owes(), four(), true, true},
		{[]int{2, 0, 1, 2}, four(), false, true},
		{[]int{2, 1, 0, 2}, four(), true, true},
		{[]int{0, 0, 0, 0}, four(), false, true},
		{[]int{1, 1, 1, 2}, four(), false, true},
		{[]int{0, 2, 1, 2}, four(), true, true},
		{[]int{1, 0, 1}, pair, true, true},
		{[]int{1, 0, 0}, pair, false, true},
		{[]int{0, 2, 1}, pair, false, true},
		{[]int{0, 3, 0}, pair, true, true},
		{[]int{1}, []target.Sheet{sheet(0, 0, 0, 0)}, true, true},
		{[]int{1}, []target.Sheet{sheet(0, 0, 0, 1)}, false, true},
		{[]int{0}, []target.Sheet{sheet(0, 0, 0, 0)}, false, true},
		{[]int{5}, []target.Sheet{sheet(0, 0, 0, 4)}, true, true},
		{[]int{5}, []target.Sheet{sheet(0, 0, 0, 5)}, false, true},
		{[]int{5, 5, 5, 5, 5, 5, 5, 5}, nil, false, true},
		{[]int{5, 5, 5, 5, 5, 5, 5, 5}, []target.Sheet{sheet(0, 7, 0, 40)}, false, true},
		{[]int{5, 5, 5, 5, 5, 5, 5, 5}, []target.Sheet{sheet(0, 7, 0, 39)}, true, true},
		{[]int{0, 0, 0, 0, 0, 0, 0, 1}, []target.Sheet{sheet(0, 7, 64, 72), sheet(7, 7, 0, 0)}, true, false},
		{[]int{0, 0, 0, 0, 0, 0, 0, 1}, []target.Sheet{sheet(0, 7, 63, 72), sheet(7, 7, 0, 0)}, true, true},
		{[]int{0, 0, 0, 0, 0, 0, 0, 1}, []target.Sheet{sheet(0, 7, 64, 64)}, false, true},
		// More loops at one bout do not make up for too few at another one.
		{[]int{1, 1}, []target.Sheet{sheet(0, 0, 0, 0), sheet(1, 1, 5, 5)}, true, true},
		// There is no truth, whatever is owed.
		{[]int{0, 0}, []target.Sheet{sheet(0, 1, 3, 3), sheet(0, 0, 4, 5)}, true, false},
		{[]int{5, 5}, []target.Sheet{sheet(0, 1, 3, 3), sheet(0, 0, 4, 5)}, true, false},
		{[]int{0}, []target.Sheet{sheet(0, 0, 10, 11)}, true, false},
		{[]int{5}, []target.Sheet{sheet(0, 0, 10, 11)}, true, false},
		{[]int{5, 0}, []target.Sheet{sheet(0, 0, 0, 0), sheet(1, 1, 10, 11)}, true, false},
		{[]int{5, 0}, []target.Sheet{sheet(0, 0, 0, 0), sheet(0, 0, 1, 1)}, true, false},
		{[]int{5, 0, 0, 0, 0, 0, 0, 0}, []target.Sheet{sheet(0, 0, 0, 0), sheet(7, 7, 1, 1), sheet(6, 7, 0, 0)}, true, false},
	} {
		proved(t, x.owed, x.l, x.few, x.truth)
	}
}

// P3.5: the errors of loops that are owed, and which error is first.
func TestFewRefuses(t *testing.T) {
	bad := make([]target.Sheet, 21)
	for i, x := range []struct {
		owed []int
		l    []target.Sheet
		want api.Errno
	}{
		{nil, nil, api.ErrCount},
		{[]int{}, bad, api.ErrCount},
		{make([]int, 9), nil, api.ErrCount},
		{[]int{9, 0, 0, 0, 0, 0, 0, 0, -1}, nil, api.ErrCount},
		{[]int{6}, nil, api.ErrRange},
		{[]int{0, 0, 6}, bad, api.ErrRange},
		{[]int{-1, 0}, bad, api.ErrRange},
		{[]int{0, math.MaxInt}, nil, api.ErrRange},
		{[]int{0, math.MinInt}, nil, api.ErrRange},
		{[]int{6}, []target.Sheet{sheet(0, 1, 0, 0)}, api.ErrRange},
		{[]int{5}, bad, api.ErrCount},
		{[]int{0}, []target.Sheet{sheet(0, 1, 1, 0)}, api.ErrUnknown},
		{[]int{5}, []target.Sheet{sheet(0, 0, 1, 0)}, api.ErrRange},
	} {
		few, e := target.Few(x.owed, x.l)
		round, f := target.Round(x.owed, x.l)
		shows, g := target.RoundShows(x.owed, x.l, nil)
		due, h := target.Due([][]int{x.owed, {9}}, [][]target.Sheet{x.l, nil})
		if few || len(round)+len(due) > 0 || shows != 0 || e != x.want || f != x.want || g != x.want || h != x.want {
			t.Error(i, few, e, round, f, shows, g, due, h)
		}
	}
}

// P3.5: sums of rounds that the program would return or not.
func TestRoundShows(t *testing.T) {
	const high, low, most, zero, owed = target.High, target.Low, target.Most, target.Zero, target.Owed
	wide := []target.Sheet{sheet(0, 3, 3, 4), sheet(1, 1, 2, 6), sheet(0, 0, 0, 1)}
	twice := []target.Step{step(high, 2), step(owed, 3), step(high, 2), step(owed, 3)}
	for i, x := range []struct {
		l     []target.Sheet
		round []target.Step
		want  int
		e     api.Errno
	}{
		{four(), []target.Step{step(high, 2), step(owed, 3)}, -1, api.OK},
		{four(), []target.Step{step(owed, 3), step(high, 2)}, -1, api.OK},
		{four(), twice, -2, api.OK},
		{four(), slices.Repeat(twice, 10), -20, api.OK},
		{four(), slices.Repeat(twice, 11), 0, api.ErrCount},
		{four(), append(slices.Repeat(twice, 10), step(high, 2)), 0, api.ErrCount},
		{four(), nil, 0, api.ErrCount},
		{four(), []target.Step{}, 0, api.ErrCount},
		{four(), make([]target.Step, 41), 0, api.ErrCount},
		{four(), slices.Repeat([]target.Step{step(9, 9)}, 41), 0, api.ErrCount},
		{wide, []target.Step{step(high, 0), step(owed, 3), step(owed, 2), step(owed, 1), step(owed, 0)}, -2, api.OK},
		{wide, []target.Step{step(owed, 2), step(owed, 1), step(owed, 0), step(high, 0), step(owed, 3)}, -2, api.OK},
		{wide, []target.Step{step(high, 0), step(owed, 3), step(owed, 2), step(low, 1), step(owed, 0)}, -4, api.OK},
		{wide, []target.Step{step(high, 0), step(owed, 3), step(zero, 2), step(low, 1), step(owed, 0)}, -3, api.OK},
		{wide, []target.Step{step(high, 0), step(owed, 3), step(owed, 2), step(low, 1), step(zero, 0)}, -2, api.OK},
		{wide, []target.Step{step(high, 0), step(owed, 3), step(zero, 2), step(owed, 1), step(zero, 0)}, 0, api.ErrWrong},
		{wide, []target.Step{step(most, 0), step(low, 2)}, 0, api.ErrWrong},
		{wide, []target.Step{step(high, 2), step(owed, 0)}, -1, api.OK},
		{wide, []target.Step{step(high, 2), step(zero, 0)}, 0, api.ErrWrong},
		{wide, []target.Step{step(high, 0), step(owed, 3), step(owed, 2), step(owed, 1), step(most, 1), step(owed, 1), step(owed, 0)}, 0, api.ErrWrong},
		{[]target.Sheet{sheet(0, 1, 19, 19), sheet(0, 0, 12, 12)}, []target.Step{step(most, 0), step(most, 1), step(low, 0)}, -1, api.OK},
		{[]target.Sheet{sheet(0, 1, 19, 19), sheet(0, 0, 12, 12)}, []target.Step{step(most, 1), step(low, 0), step(most, 0)}, -1, api.OK},
		{[]target.Sheet{sheet(0, 1, 19, 19), sheet(0, 0, 12, 12)}, []target.Step{step(low, 1), step(high, 0), step(zero, 1)}, 0, api.ErrWrong},
		{[]target.Sheet{sheet(0, 1, 19, 19), sheet(0, 0, 12, 12)}, []target.Step{step(low, 1), step(most, 0)}, -3, api.OK},
		// Sums that are less than 0, of steps that are not closed.
		{four(), []target.Step{step(owed, 3)}, 0, api.ErrWrong},
		{four(), []target.Step{step(low, 2), step(owed, 2)}, 0, api.ErrWrong},
		{four(), []target.Step{step(owed, 3), step(owed, 3)}, 0, api.ErrWrong},
		{four(), []target.Step{step(high, 2), step(owed, 3), step(owed, 2)}, 0, api.ErrWrong},
		{four(), []target.Step{step(owed, 2), step(high, 2), step(owed, 3)}, 0, api.ErrWrong},
		{four(), []target.Step{step(high, 2), step(owed, 3), step(high, 2), step(owed, 3), step(owed, 0)}, 0, api.ErrWrong},
		{wide, []target.Step{step(high, 0), step(owed, 3), step(owed, 1), step(owed, 0)}, 0, api.ErrWrong},
		{wide, []target.Step{step(high, 0), step(owed, 0), step(owed, 2), step(owed, 1), step(owed, 3)}, 0, api.ErrWrong},
		// Steps that there are not, also among steps that are not closed.
		{four(), []target.Step{step(high, 3), step(owed, 3)}, 0, api.ErrUnknown},
		{four(), []target.Step{step(high, -1), step(owed, 3)}, 0, api.ErrUnknown},
		{four(), []target.Step{step(low, 3), step(owed, 3)}, 0, api.ErrUnknown},
		{four(), []target.Step{step(low, -1), step(owed, 3)}, 0, api.ErrUnknown},
		{four(), []target.Step{step(high, 2), step(owed, 4)}, 0, api.ErrUnknown},
		{four(), []target.Step{step(high, 2), step(owed, -1)}, 0, api.ErrUnknown},
		{four(), []target.Step{step(most, 4)}, 0, api.ErrUnknown},
		{four(), []target.Step{step(most, -1)}, 0, api.ErrUnknown},
		{four(), []target.Step{step(zero, 4)}, 0, api.ErrUnknown},
		{four(), []target.Step{step(zero, -1)}, 0, api.ErrUnknown},
		{four(), []target.Step{step(owed+1, 0)}, 0, api.ErrUnknown},
		{four(), []target.Step{step(-1, 0)}, 0, api.ErrUnknown},
		{four(), []target.Step{step(math.MaxInt, 0)}, 0, api.ErrUnknown},
		{four(), []target.Step{step(math.MinInt, 0)}, 0, api.ErrUnknown},
		{four(), []target.Step{step(high, math.MaxInt)}, 0, api.ErrUnknown},
		{four(), []target.Step{step(owed, math.MinInt)}, 0, api.ErrUnknown},
		{four(), append(slices.Clone(twice), step(owed, 2), step(owed, 9)), 0, api.ErrUnknown},
		{nil, []target.Step{step(high, 0)}, 0, api.ErrUnknown},
		{nil, []target.Step{step(low, 0)}, 0, api.ErrUnknown},
		{nil, []target.Step{step(most, 3), step(owed, 3)}, 0, api.ErrWrong},
	} {
		if got, e := target.RoundShows(owes(), x.l, x.round); got != x.want || e != x.e {
			t.Error(i, got, e)
		}
	}
}

// P3.5: all who have skied too few, and the first error of several skiers.
func TestDue(t *testing.T) {
	none, one := []target.Sheet{sheet(0, 0, 0, 0)}, []target.Sheet{sheet(0, 0, 1, 1)}
	false2 := []target.Sheet{sheet(0, 0, 0, 0), sheet(0, 0, 1, 1)}
	many := make([][]target.Sheet, 9)
	for i, x := range []struct {
		owed [][]int
		l    [][]target.Sheet
		want []int
		e    api.Errno
	}{
		{[][]int{{1}, {0}, {2}}, [][]target.Sheet{none, nil, one}, []int{0, 2}, api.OK},
		{[][]int{{1}, {0}, {2}, {1}, {0}}, [][]target.Sheet{one, none, nil, false2, false2}, []int{3, 4}, api.OK},
		{[][]int{owes(), {2, 0, 1, 2}}, [][]target.Sheet{four(), four()}, []int{0}, api.OK},
		{[][]int{{0}, {0}}, [][]target.Sheet{none, one}, nil, api.OK},
		{nil, nil, nil, api.OK},
		{[][]int{}, [][]target.Sheet{}, nil, api.OK},
		{slices.Repeat([][]int{{1}}, 8), slices.Repeat([][]target.Sheet{none}, 8), []int{0, 1, 2, 3, 4, 5, 6, 7}, api.OK},
		{slices.Repeat([][]int{{1}}, 9), slices.Repeat([][]target.Sheet{none}, 9), nil, api.ErrCount},
		{make([][]int, 9), many, nil, api.ErrCount},
		{[][]int{{1}}, nil, nil, api.ErrCount},
		{nil, many[:1], nil, api.ErrCount},
		{[][]int{{9}, {1}}, many[:1], nil, api.ErrCount},
		{[][]int{{9}, {1}}, many[:3], nil, api.ErrCount},
		{[][]int{{1}, nil}, [][]target.Sheet{none, nil}, nil, api.ErrCount},
		{[][]int{{1}, {6}, nil}, [][]target.Sheet{none, nil, nil}, nil, api.ErrRange},
		{[][]int{{1}, {0}, {6}}, [][]target.Sheet{none, {sheet(0, 1, 0, 0)}, nil}, nil, api.ErrUnknown},
		{[][]int{{1}, {0}, nil}, [][]target.Sheet{none, {sheet(0, 0, 1, 0)}, nil}, nil, api.ErrRange},
	} {
		if got, e := target.Due(x.owed, x.l); !slices.Equal(got, x.want) || e != x.e {
			t.Error(i, got, e)
		}
	}
}

// P3.5: random sheets and loops that are owed, by all truths.
func TestFewOfRandomSheets(t *testing.T) {
	g := rand.New(rand.NewSource(9))
	found := map[[2]bool]int{}
	for range 2500 {
		n := 1 + g.Intn(3)
		owed, l := someOwed(g, n), wildSheets(g, n, g.Intn(6), g.Intn(5))
		few, truth := fewOf(owed, l), len(truths(n, l)) > 0
		proved(t, owed, l, few, truth)
		found[[2]bool{few, truth}]++
	}
	for range 400 {
		n := 4 + g.Intn(5)
		owed, l := someOwed(g, n), wildSheets(g, n, g.Intn(12), g.Intn(3))
		for i := range n {
			lo := min(9, owed[i]+g.Intn(2))
			l = append(l, sheet(i, i, lo-g.Intn(lo+1), lo))
		}
		few, truth := fewOf(owed, l), len(truths(n, l)) > 0
		proved(t, owed, l, few, truth)
		found[[2]bool{few, truth}]++
	}
	if found[[2]bool{true, false}] < 200 || found[[2]bool{true, true}] < 200 || found[[2]bool{false, true}] < 200 {
		t.Error("the sheets are too much alike", found)
	}
}

// walk returns random steps each of which begins where the one before it ends,
// up to a place where there was one before, if that is near.
func walk(g *rand.Rand, owed []int, l []target.Sheet) []target.Step {
	all := allSteps(len(owed), l)
	first := all[g.Intn(len(all))]
	round := []target.Step{first}
	start, at, _ := stepOf(owed, l, first)
	for len(round) < 42 && at != start {
		next := all[g.Intn(len(all))]
		if from, to, _ := stepOf(owed, l, next); from == at {
			round = append(round, next)
			at = to
		}
	}
	return round
}

// P3.5: random rounds, closed or not, step by step.
func TestRandomRounds(t *testing.T) {
	g := rand.New(rand.NewSource(10))
	found := map[api.Errno]int{}
	for range 5000 {
		n := 1 + g.Intn(8)
		owed, l := someOwed(g, n), wildSheets(g, n, g.Intn(8), 2)
		round := walk(g, owed, l)
		if found, _ := target.Round(owed, l); len(found) > 0 && g.Intn(2) == 0 {
			turn := g.Intn(len(found))
			round = slices.Concat(found[turn:], found[:turn])
		}
		switch g.Intn(6) {
		case 0:
			all := allSteps(n, l)
			round[g.Intn(len(round))] = all[g.Intn(len(all))]
		case 1:
			round = slices.Repeat(round, 1+g.Intn(9))
		}
		want, e := 0, api.ErrCount
		if len(round) <= 40 {
			sum, closed := roundOf(owed, l, round)
			e = api.ErrWrong
			if closed && sum < 0 {
				want, e = sum, api.OK
			}
		}
		if got, f := target.RoundShows(owed, l, round); got != want || f != e {
			t.Fatal(owed, l, round, got, f, want, e)
		}
		found[e]++
	}
	if found[api.OK] < 200 || found[api.ErrWrong] < 200 || found[api.ErrCount] < 20 {
		t.Error("the rounds are too much alike", found)
	}
}

// P3.7: whose sheets are true, and who has skied all loops, is never due.
func TestNeverDue(t *testing.T) {
	g := rand.New(rand.NewSource(11))
	for range 500 {
		var owed [][]int
		var sheets [][]target.Sheet
		for range 1 + g.Intn(8) {
			loops, l := someSheets(g, 1+g.Intn(8), g.Intn(21), g.Intn(4))
			for i, n := range loops {
				loops[i] = min(5, n)
				if g.Intn(3) == 0 {
					loops[i] = g.Intn(loops[i] + 1)
				}
			}
			owed, sheets = append(owed, loops), append(sheets, l)
		}
		if due, e := target.Due(owed, sheets); len(due) > 0 || e != api.OK {
			t.Fatal(owed, sheets, due, e)
		}
	}
}

// R4: sheets and rounds are not modified, and results are new.
func TestSheetMemory(t *testing.T) {
	owed, l, round := owes(), four(), []target.Step{step(target.High, 2), step(target.Owed, 3)}
	for i := range 2 {
		skied, _ := target.Skied(4, l)
		target.Between(4, l, 0, 3)
		found, _ := target.Round(owed, l)
		target.RoundShows(owed, l, round)
		due, _ := target.Due([][]int{owed, {0}}, [][]target.Sheet{l, nil})
		if len(skied) != 4 || len(found) == 0 || !slices.Equal(due, []int{0}) {
			t.Error(i, skied, found, due)
		}
		clear(skied)
		clear(found)
		clear(due)
	}
	if !slices.Equal(owed, owes()) || !slices.Equal(l, four()) || !slices.Equal(round, []target.Step{step(target.High, 2), step(target.Owed, 3)}) {
		t.Error("an argument is modified", owed, l, round)
	}
}
