package sheet_test

import (
	"math"
	"math/rand"
	"slices"
	"testing"

	"klister/api"
	"klister/sheet"
)

// put is a change without Before, out one without After.
func put(numbers ...int) sheet.Change { return sheet.Change{After: row(numbers...)} }
func out(numbers ...int) sheet.Change { return sheet.Change{Before: row(numbers...)} }

// set is a change of a row of a start list.
func set(bib, time, gate, newTime, newGate int) sheet.Change {
	return sheet.Change{Before: row(bib, time, gate), After: row(bib, newTime, newGate)}
}

// list returns changes.
func list(l ...sheet.Change) []sheet.Change { return l }

// puts returns changes that put rows from a bib on.
func puts(rows, from int) []sheet.Change {
	var l []sheet.Change
	for i := range rows {
		l = append(l, put(from+i, 0, 0))
	}
	return l
}

// fifth returns the sheet, the other sheet and the changes of the fifth example.
func fifth() (a, b sheet.Sheet, l []sheet.Change) {
	return starts(7, 0, 1, 12, 305, 0), starts(7, 10, 1, 9, 200, 0), list(set(7, 0, 1, 10, 1), put(9, 200, 0), out(12, 305, 0))
}

// areRefused checks the error of changes, also if others are made of them.
func areRefused(t *testing.T, k sheet.Kind, l []sheet.Change, want api.Errno) {
	t.Helper()
	inverted, f := sheet.Invert(k, l)
	joined, g := sheet.Join(k, l, nil)
	other, h := sheet.Join(k, nil, l)
	if e := sheet.CheckChanges(k, l); e != want || f != want || g != want || h != want {
		t.Error(l, e, f, g, h, want)
	}
	if want != api.OK && (inverted != nil || joined != nil || other != nil) {
		t.Error(inverted, joined, other)
	}
}

// P10.4: the errors of changes, in their order.
func TestCheckChanges(t *testing.T) {
	_, _, l := fifth()
	areRefused(t, sheet.Starts, l, api.OK)
	areRefused(t, sheet.Starts, nil, api.OK)
	for _, k := range []sheet.Kind{math.MinInt, -1, 5, math.MaxInt} {
		areRefused(t, k, nil, api.ErrUnknown)
		areRefused(t, k, list(sheet.Change{}), api.ErrUnknown)
	}

	areRefused(t, sheet.Starts, puts(400, 0), api.OK)
	areRefused(t, sheet.Starts, puts(401, 0), api.ErrCount)
	areRefused(t, sheet.Starts, slices.Repeat(list(put(-1, 0, 0)), 401), api.ErrCount)
	areRefused(t, sheet.Starts, list(sheet.Change{}), api.ErrCount)
	areRefused(t, sheet.Starts, list(sheet.Change{Before: row(), After: row()}), api.ErrCount)
	areRefused(t, sheet.Starts, list(put(-1, 0, 0), sheet.Change{}), api.ErrCount)
	areRefused(t, sheet.Starts, list(put(1, 0)), api.ErrCount)
	areRefused(t, sheet.Starts, list(put(1, 0, 0, 0)), api.ErrCount)
	areRefused(t, sheet.Starts, list(out(1, 0)), api.ErrCount)
	areRefused(t, sheet.Starts, list(put(-1, 0, 0), sheet.Change{Before: row(1, 0, 0), After: row(1)}), api.ErrCount)
	areRefused(t, sheet.Starts, list(sheet.Change{Before: row(1), After: row(1, 0, 0)}), api.ErrCount)
	areRefused(t, sheet.Passes, list(put(1, 0, 0)), api.ErrCount)

	areRefused(t, sheet.Starts, list(put(-1, 0, 0)), api.ErrRange)
	areRefused(t, sheet.Starts, list(out(1, 360001, 0)), api.ErrRange)
	areRefused(t, sheet.Starts, list(sheet.Change{Before: row(1, 0, 0), After: row(1, 0, 1000000)}), api.ErrRange)
	areRefused(t, sheet.Starts, list(sheet.Change{Before: row(1, 0, -1), After: row(1, 0, 0)}), api.ErrRange)
	areRefused(t, sheet.Starts, list(sheet.Change{After: []sheet.Cell{text("a"), {}, {}}}, put(0, -1, 0)), api.ErrRange)
	areRefused(t, sheet.Starts, list(sheet.Change{Before: row(2, 0, 0), After: row(1, 0, 0)}, put(0, -1, 0)), api.ErrRange)
	areRefused(t, sheet.Starts, list(sheet.Change{Before: row(2, 0, 0), After: row(1, 0, 0)}, sheet.Change{After: []sheet.Cell{{}, {}, text("a")}}), api.ErrForm)
	areRefused(t, sheet.Starts, list(sheet.Change{Before: []sheet.Cell{{}, text("a"), {}}, After: row(0, 0, 0)}), api.ErrForm)
	areRefused(t, sheet.Targets, list(put(1, 2, 3)), api.ErrForm)
	areRefused(t, sheet.Targets, list(sheet.Change{After: targets(text("xxxx")).Rows[0]}), api.ErrForm)
	areRefused(t, sheet.Judgements, list(sheet.Change{Before: judgements(text("")).Rows[0]}), api.ErrForm)

	areRefused(t, sheet.Starts, list(sheet.Change{Before: row(7, 0, 1), After: row(8, 0, 1)}), api.ErrConflict)
	areRefused(t, sheet.Starts, list(set(7, 0, 1, 0, 1)), api.ErrConflict)
	areRefused(t, sheet.Starts, list(put(9, 0, 0), put(8, 0, 0), set(7, 0, 1, 0, 1)), api.ErrConflict)
	areRefused(t, sheet.Passes, list(sheet.Change{Before: row(1, 2, 3, 4), After: row(1, 2, 4, 4)}), api.ErrConflict)
	areRefused(t, sheet.Passes, list(sheet.Change{Before: row(1, 2, 3, 4), After: row(1, 2, 3, 5)}), api.OK)
	areRefused(t, sheet.Targets, list(sheet.Change{Before: targets(text("xxxxx")).Rows[0], After: targets(text("xxxxo")).Rows[0]}), api.OK)

	areRefused(t, sheet.Starts, list(l[2], l[0]), api.ErrOrder)
	areRefused(t, sheet.Starts, list(l[0], l[0]), api.ErrOrder)
	areRefused(t, sheet.Starts, list(out(7, 0, 0), put(7, 0, 1)), api.ErrOrder)
	areRefused(t, sheet.Starts, list(put(7, 0, 0), put(9, 0, 0), out(8, 0, 0)), api.ErrOrder)
	areRefused(t, sheet.Passes, list(put(1, 2, 3, 4), put(1, 2, 2, 5)), api.ErrOrder)
	areRefused(t, sheet.Passes, list(put(1, 2, 3, 4), put(1, 3, 0, 0)), api.OK)
}

// P10.4: the fifth example.
func TestDiff(t *testing.T) {
	a, b, l := fifth()
	isDiff := func(a, b sheet.Sheet, want []sheet.Change) {
		t.Helper()
		if result, e := sheet.Diff(a, b); !sameChanges(result, want) || e != api.OK {
			t.Error(result, e, want)
		}
	}
	isDiff(a, b, l)
	isDiff(a, a, nil)
	isDiff(starts(), starts(), nil)
	isDiff(starts(), starts(1, 2, 3), list(put(1, 2, 3)))
	isDiff(starts(1, 2, 3), starts(), list(out(1, 2, 3)))
	isDiff(many(200, 0), starts(), inverted(puts(200, 0)))
	isDiff(many(200, 200), many(200, 0), slices.Concat(puts(200, 0), inverted(puts(200, 200))))
	isDiff(of(sheet.Passes, row(1, 2, 3, 4), row(1, 2, 4, 4)), of(sheet.Passes, row(1, 2, 3, 5), row(1, 3, 3, 4)), list(sheet.Change{Before: row(1, 2, 3, 4), After: row(1, 2, 3, 5)}, out(1, 2, 4, 4), put(1, 3, 3, 4)))
	isDiff(targets(text("xxxxx")), targets(text("xxxxo")), list(sheet.Change{Before: targets(text("xxxxx")).Rows[0], After: targets(text("xxxxo")).Rows[0]}))
}

// inverted returns changes with Before and After exchanged.
func inverted(l []sheet.Change) []sheet.Change {
	var result []sheet.Change
	for _, c := range l {
		result = append(result, sheet.Change{Before: c.After, After: c.Before})
	}
	return result
}

// P10.4: the errors of Diff, those of the first sheet before those of the second one.
func TestDiffErrors(t *testing.T) {
	good := starts(1, 2, 3)
	for _, wrong := range []sheet.Sheet{of(-1), of(5), of(sheet.Starts, nil), many(201, 0), starts(-1, 0, 0), of(sheet.Starts, []sheet.Cell{text("x"), {}, {}}), starts(1, 0, 0, 1, 0, 0), starts(1, 0, 0, 0, 0, 0)} {
		want := errorOf(wrong)
		e, f := second(sheet.Diff(wrong, of(9))), second(sheet.Diff(good, wrong))
		g, h := second(sheet.Diff(of(sheet.Cups), wrong)), second(sheet.Diff(wrong, of(sheet.Cups)))
		if e != want || f != want || g != want || h != want {
			t.Error(wrong, e, f, g, h, want)
		}
	}
	if l, e := sheet.Diff(good, of(sheet.Cups)); l != nil || e != api.ErrConflict {
		t.Error(l, e)
	}
	if e := second(sheet.Diff(of(sheet.Cups), good)); e != api.ErrConflict {
		t.Error(e)
	}
}

// P10.4: what changes make of a sheet.
func TestApply(t *testing.T) {
	a, b, l := fifth()
	isApplied := func(s sheet.Sheet, l []sheet.Change, want sheet.Sheet) {
		t.Helper()
		result, e := sheet.Apply(s, l)
		isSheet(t, result, e, want)
	}
	isApplied(a, l, b)
	isApplied(a, nil, a)
	isApplied(starts(), nil, starts())
	isApplied(a, l[:1], starts(7, 10, 1, 12, 305, 0))
	isApplied(a, l[1:2], starts(7, 0, 1, 9, 200, 0, 12, 305, 0))
	isApplied(a, l[2:], starts(7, 0, 1))
	isApplied(starts(1, 1, 1), list(put(0, 5, 5), out(1, 1, 1), put(2, 0, 0)), starts(0, 5, 5, 2, 0, 0))
	isApplied(many(200, 0), list(out(0, 0, 0), put(200, 0, 0)), many(200, 1))
	isApplied(many(200, 1), list(put(0, 0, 0), out(200, 0, 0)), many(200, 0))
	isApplied(many(199, 1), list(put(0, 0, 0)), many(200, 0))
	isApplied(of(sheet.Cups), list(put(1, 2, 3)), of(sheet.Cups, row(1, 2, 3)))
	isApplied(starts(), puts(200, 0), many(200, 0))
}

// P10.4: the errors of Apply, in their order.
func TestApplyErrors(t *testing.T) {
	a, b, l := fifth()
	isWrong := func(s sheet.Sheet, l []sheet.Change, want api.Errno) {
		t.Helper()
		if result, e := sheet.Apply(s, l); result.Kind != 0 || result.Rows != nil || e != want {
			t.Error(s, l, result, e, want)
		}
	}
	none := list(sheet.Change{})
	isWrong(of(-1), none, api.ErrUnknown)
	isWrong(of(sheet.Starts, nil), none, api.ErrCount)
	isWrong(starts(-1, 0, 0), none, api.ErrRange)
	isWrong(of(sheet.Starts, []sheet.Cell{text("x"), {}, {}}), none, api.ErrForm)
	isWrong(starts(1, 0, 0, 1, 0, 0), none, api.ErrTwice)
	isWrong(starts(1, 0, 0, 0, 0, 0), none, api.ErrOrder)
	isWrong(a, none, api.ErrCount)
	isWrong(a, list(put(1, 0)), api.ErrCount)
	isWrong(of(sheet.Passes), list(put(1, 0, 0)), api.ErrCount)
	isWrong(a, list(put(1, -1, 0)), api.ErrRange)
	isWrong(a, list(sheet.Change{After: []sheet.Cell{text("a"), {}, {}}}), api.ErrForm)
	isWrong(a, list(set(12, 305, 0, 305, 0)), api.ErrConflict)
	isWrong(a, list(l[2], l[0]), api.ErrOrder)

	isWrong(b, l, api.ErrWrong)
	isWrong(starts(), list(out(7, 0, 1)), api.ErrWrong)
	isWrong(a, list(out(7, 0, 0)), api.ErrWrong)
	isWrong(a, list(out(8, 0, 1)), api.ErrWrong)
	isWrong(a, list(set(7, 1, 1, 0, 1)), api.ErrWrong)
	isWrong(a, list(put(7, 0, 1)), api.ErrWrong)
	isWrong(a, list(put(12, 0, 0)), api.ErrWrong)
	isWrong(many(200, 0), list(put(200, 0, 0)), api.ErrCount)
	isWrong(many(200, 0), list(put(200, 0, 0), out(201, 0, 0)), api.ErrWrong)
	isWrong(many(200, 0), list(out(0, 0, 0), put(200, 0, 0), put(201, 0, 0)), api.ErrCount)
	isWrong(starts(), puts(201, 0), api.ErrCount)
}

// someChanges returns changes of a kind, mostly in order.
func someChanges(g *rand.Rand, k sheet.Kind) []sheet.Change {
	s := someSheet(g, k)
	l, _ := sheet.Diff(s, version(g, s))
	for range g.Intn(2) {
		switch at := g.Intn(len(l) + 1); {
		case at == len(l):
			l = append(l, sheet.Change{Before: pick(g, nil, someRow(g, k)), After: someRow(g, k)})
		case g.Intn(4) == 0:
			l[at].Before = pick(g, nil, someRow(g, k), l[at].After)
		case len(l[at].After) > 0:
			all := of(k, slices.Clone(l[at].After))
			spoil(g, &all)
			l[at].After = all.Rows[0]
		}
	}
	return l
}

// P10.4: all errors of changes, and what they make, are those of the slow reading.
func TestAllChanges(t *testing.T) {
	g := rand.New(rand.NewSource(6))
	found := map[api.Errno]int{}
	for range 30000 {
		k := sheet.Kind(g.Intn(5))
		s, l := someSheet(g, k), someChanges(g, k)
		want := changesError(k, l)
		if e := sheet.CheckChanges(k, l); e != want {
			t.Fatal(l, e, want)
		}
		after := sheet.Sheet{}
		if want == api.OK {
			if g.Intn(2) == 0 {
				l = slices.DeleteFunc(l, func(c sheet.Change) bool { return !slices.Equal(rowWith(s, either(c)), c.Before) })
			}
			after, want = changed(s, l)
		}
		if result, e := sheet.Apply(s, l); !same(result, after) || e != want {
			t.Fatal(s, l, result, e, after, want)
		}
		found[want]++
	}
	areCommon(t, found, 100, api.OK, api.ErrCount, api.ErrRange, api.ErrForm, api.ErrConflict, api.ErrOrder, api.ErrWrong)
}

// P10.4: of all changes that make one sheet of another one the fewest are returned.
func TestFewestChanges(t *testing.T) {
	g := rand.New(rand.NewSource(7))
	for range 20000 {
		a := someSheet(g, sheet.Kind(g.Intn(5)))
		b := version(g, a)
		l, e := sheet.Diff(a, b)
		f := sheet.CheckChanges(a.Kind, l)
		after, h := changed(a, l)
		if e != api.OK || f != api.OK || h != api.OK || !same(after, b) {
			t.Fatal(a, b, l, e, f, h)
		}
		// A change has one key, so each key whose rows differ needs one of its own.
		differ := 0
		for _, row := range union(a, b) {
			if !slices.Equal(rowWith(a, row), rowWith(b, row)) {
				differ++
			}
		}
		if len(l) != differ {
			t.Fatal(a, b, l, differ)
		}
	}
}
