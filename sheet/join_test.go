package sheet_test

import (
	"math/rand"
	"slices"
	"testing"

	"klister/api"
	"klister/sheet"
)

// P10.5: what undoes changes.
func TestInvert(t *testing.T) {
	_, _, l := fifth()
	back, e := sheet.Invert(sheet.Starts, l)
	if want := list(set(7, 10, 1, 0, 1), out(9, 200, 0), put(12, 305, 0)); !sameChanges(back, want) || e != api.OK {
		t.Error(back, e)
	}
	if none, e := sheet.Invert(sheet.Cups, nil); len(none) != 0 || e != api.OK {
		t.Error(none, e)
	}
}

// P10.5: changes of one key become one change, or none.
func TestJoin(t *testing.T) {
	isJoined := func(a, b, want []sheet.Change) {
		t.Helper()
		if l, e := sheet.Join(sheet.Starts, a, b); !sameChanges(l, want) || e != api.OK {
			t.Error(a, b, l, e, want)
		}
	}
	isJoined(nil, nil, nil)
	isJoined(list(put(1, 0, 0)), nil, list(put(1, 0, 0)))
	isJoined(nil, list(put(1, 0, 0)), list(put(1, 0, 0)))
	isJoined(list(put(2, 0, 0)), list(put(1, 0, 0), out(3, 0, 0)), list(put(1, 0, 0), put(2, 0, 0), out(3, 0, 0)))
	isJoined(list(put(1, 0, 0)), list(set(1, 0, 0, 5, 5)), list(put(1, 5, 5)))
	isJoined(list(set(1, 0, 0, 5, 5)), list(set(1, 5, 5, 6, 6)), list(set(1, 0, 0, 6, 6)))
	isJoined(list(set(1, 0, 0, 5, 5)), list(out(1, 5, 5)), list(out(1, 0, 0)))
	isJoined(list(out(1, 0, 0)), list(put(1, 5, 5)), list(set(1, 0, 0, 5, 5)))
	isJoined(list(put(1, 0, 0)), list(out(1, 0, 0)), nil)
	isJoined(list(out(1, 0, 0)), list(put(1, 0, 0)), nil)
	isJoined(list(set(1, 0, 0, 5, 5)), list(set(1, 5, 5, 0, 0)), nil)
	isJoined(list(put(1, 0, 0), put(2, 0, 0)), list(out(1, 0, 0), put(3, 0, 0)), list(put(2, 0, 0), put(3, 0, 0)))
	isJoined(puts(400, 0), inverted(puts(400, 0)), nil)
	isJoined(puts(200, 200), puts(200, 0), puts(400, 0))
}

// P10.5: the errors of Join, in their order.
func TestJoinErrors(t *testing.T) {
	isWrong := func(k sheet.Kind, a, b []sheet.Change, want api.Errno) {
		t.Helper()
		if l, e := sheet.Join(k, a, b); l != nil || e != want {
			t.Error(a, b, l, e, want)
		}
	}
	isWrong(5, nil, nil, api.ErrUnknown)
	isWrong(sheet.Starts, list(put(2, 0, 0), put(1, 0, 0)), list(sheet.Change{}), api.ErrOrder)
	isWrong(sheet.Starts, list(set(1, 0, 0, 0, 0)), list(put(-1, 0, 0)), api.ErrConflict)
	isWrong(sheet.Starts, list(put(1, 0, 0)), list(put(1, 0, 0), put(0, 0, 0)), api.ErrOrder)
	isWrong(sheet.Starts, list(put(1, 0, 0)), list(put(1, 0, 0), put(-1, 0, 0)), api.ErrRange)

	isWrong(sheet.Starts, list(put(1, 0, 0)), list(put(1, 0, 0)), api.ErrWrong)
	isWrong(sheet.Starts, list(put(1, 0, 0)), list(put(1, 5, 5)), api.ErrWrong)
	isWrong(sheet.Starts, list(put(1, 0, 0)), list(out(1, 5, 5)), api.ErrWrong)
	isWrong(sheet.Starts, list(put(1, 0, 0)), list(set(1, 5, 5, 0, 0)), api.ErrWrong)
	isWrong(sheet.Starts, list(out(1, 0, 0)), list(out(1, 0, 0)), api.ErrWrong)
	isWrong(sheet.Starts, list(out(1, 0, 0)), list(set(1, 0, 0, 5, 5)), api.ErrWrong)
	isWrong(sheet.Starts, list(set(1, 0, 0, 5, 5)), list(set(1, 0, 0, 5, 5)), api.ErrWrong)
	isWrong(sheet.Starts, list(set(1, 0, 0, 5, 5)), list(put(1, 0, 0)), api.ErrWrong)
	isWrong(sheet.Starts, list(put(1, 0, 0), put(2, 0, 0)), list(out(1, 0, 0), put(2, 0, 0)), api.ErrWrong)

	isWrong(sheet.Starts, puts(400, 1), list(put(0, 0, 0)), api.ErrCount)
	isWrong(sheet.Starts, puts(1, 0), puts(400, 1), api.ErrCount)
	isWrong(sheet.Starts, puts(400, 1), list(put(0, 0, 0), put(1, 0, 0)), api.ErrWrong)
	isWrong(sheet.Starts, puts(400, 1), list(put(0, 0, 0), set(1, 0, 0, 1, 1)), api.ErrCount)
	if l, e := sheet.Join(sheet.Starts, puts(400, 1), list(put(0, 0, 0), out(1, 0, 0))); len(l) != 400 || e != api.OK {
		t.Error(len(l), e)
	}
}

// P10.5: changes that are joined do what both do, of whatever sheet, and are refused where these can't follow.
func TestAllJoins(t *testing.T) {
	g := rand.New(rand.NewSource(8))
	good, wrong := 0, 0
	for range 30000 {
		s := someSheet(g, sheet.Kind(g.Intn(5)))
		first := version(g, s)
		a, _ := sheet.Diff(s, first)
		from := pick(g, first, first, s, version(g, first))
		b, _ := sheet.Diff(from, version(g, from))
		fits := true
		for _, c := range b {
			for _, d := range a {
				fits = fits && (compareKeys(s.Kind, either(c), either(d)) != 0 || slices.Equal(c.Before, d.After))
			}
		}
		l, e := sheet.Join(s.Kind, a, b)
		if !fits {
			wrong++
			if e != api.ErrWrong {
				t.Fatal(a, b, l, e)
			}
			continue
		}
		good++
		if f := sheet.CheckChanges(s.Kind, l); e != api.OK || f != api.OK {
			t.Fatal(a, b, l, e, f)
		}
		middle, _ := changed(s, a)
		if after, e := changed(middle, b); e == api.OK {
			if result, f := changed(s, l); f != api.OK || !same(result, after) {
				t.Fatal(s, a, b, l, result, f)
			}
			if fewest, _ := sheet.Diff(s, after); !sameChanges(fewest, l) {
				t.Fatal(s, a, b, l, fewest)
			}
		}
	}
	if good < 1000 || wrong < 1000 {
		t.Error(good, wrong)
	}
}

// isMerged checks a merge, with both in either order.
func isMerged(t *testing.T, base, a, b, want sheet.Sheet, conflicts ...[]int) {
	t.Helper()
	for range 2 {
		s, keys, e := sheet.Merge(base, a, b)
		isSheet(t, s, e, want)
		if !slices.EqualFunc(keys, conflicts, func(x, y []int) bool { return slices.Equal(x, y) }) {
			t.Error(keys, conflicts)
		}
		a, b = b, a
	}
}

// P10.5: the sixth example, and others.
func TestMerge(t *testing.T) {
	two, none := starts(7, 0, 1, 12, 305, 0), starts()
	isMerged(t, two, starts(7, 10, 1, 12, 305, 0), starts(7, 0, 1), starts(7, 10, 1))
	isMerged(t, two, starts(7, 10, 1, 12, 305, 0), starts(7, 0, 2, 12, 305, 0), none, []int{7})
	isMerged(t, two, two, two, two)
	isMerged(t, two, two, none, none)
	isMerged(t, two, none, none, none)
	isMerged(t, none, none, none, none)
	isMerged(t, two, starts(7, 10, 1), starts(7, 10, 1), starts(7, 10, 1))
	isMerged(t, two, starts(7, 10, 1, 12, 305, 0), starts(12, 305, 0), none, []int{7})
	isMerged(t, two, starts(7, 10, 1), starts(12, 9, 0), none, []int{7}, []int{12})
	isMerged(t, none, starts(1, 0, 0), starts(2, 0, 1), starts(1, 0, 0, 2, 0, 1))
	isMerged(t, none, starts(1, 0, 0), starts(1, 0, 0), starts(1, 0, 0))
	isMerged(t, none, starts(1, 0, 0), starts(1, 0, 1), none, []int{1})
	isMerged(t, none, starts(1, 0, 0, 2, 0, 0, 3, 0, 0), starts(1, 0, 1, 2, 0, 0, 3, 0, 1), none, []int{1}, []int{3})
	passes := func(time int) sheet.Sheet { return of(sheet.Passes, row(1, 3, 2, time), row(1, 10, 0, time)) }
	isMerged(t, passes(5), passes(6), passes(7), none, []int{1, 3, 2}, []int{1, 10, 0})
	isMerged(t, passes(5), passes(6), of(sheet.Passes), none, []int{1, 3, 2}, []int{1, 10, 0})
	isMerged(t, passes(5), passes(6), passes(5), passes(6))
	isMerged(t, targets(text("xxxxx")), targets(text("xxxxo")), targets(text("xxxox")), none, []int{1, 2})
	isMerged(t, judgements(text("a")), judgements(text("b")), judgements(text("c")), none, []int{1})
	isMerged(t, of(sheet.Cups), of(sheet.Cups, row(1, 2, 3)), of(sheet.Cups), of(sheet.Cups, row(1, 2, 3)))
	isMerged(t, none, many(100, 0), many(100, 100), many(200, 0))
	isMerged(t, many(200, 1), many(200, 0), many(200, 2), of(sheet.Starts, slices.Concat(many(1, 0).Rows, many(198, 2).Rows, many(1, 201).Rows)...))
	isMerged(t, many(200, 0), many(199, 1), of(sheet.Starts, append(many(200, 0).Rows[:199:199], row(199, 1, 1))...), of(sheet.Starts, append(many(198, 1).Rows, row(199, 1, 1))...))
}

// P10.5: the errors of Merge, in their order.
func TestMergeErrors(t *testing.T) {
	isWrong := func(base, a, b sheet.Sheet, want api.Errno) {
		t.Helper()
		s, keys, e := sheet.Merge(base, a, b)
		if s.Kind != 0 || s.Rows != nil || keys != nil || e != want {
			t.Error(s, keys, e, want)
		}
	}
	good, cups := starts(1, 0, 0), of(sheet.Cups)
	isWrong(of(9), of(sheet.Starts, nil), starts(-1, 0, 0), api.ErrUnknown)
	isWrong(good, of(sheet.Starts, nil), starts(-1, 0, 0), api.ErrCount)
	isWrong(good, cups, starts(-1, 0, 0), api.ErrRange)
	isWrong(cups, good, of(sheet.Starts, []sheet.Cell{text("x"), {}, {}}), api.ErrForm)
	isWrong(starts(1, 0, 0, 1, 0, 0), of(9), of(9), api.ErrTwice)
	isWrong(good, starts(1, 0, 0, 0, 0, 0), of(9), api.ErrOrder)
	isWrong(cups, good, good, api.ErrConflict)
	isWrong(good, cups, good, api.ErrConflict)
	isWrong(good, good, cups, api.ErrConflict)
	isWrong(good, cups, cups, api.ErrConflict)
	isWrong(starts(), many(150, 0), many(150, 500), api.ErrCount)
	isWrong(starts(), many(101, 0), many(100, 101), api.ErrCount)
	isWrong(many(200, 2), many(200, 1), of(sheet.Starts, append(many(200, 2).Rows[:199:199], row(300, 0, 0), row(301, 0, 0))...), api.ErrCount)
}

// P10.5: if there are conflicts, they are returned even if there are too many rows.
func TestConflictsOfManyRows(t *testing.T) {
	a, b := many(150, 0), many(150, 149)
	b.Rows[0][2].Number = 1
	isMerged(t, starts(), a, b, starts(), []int{149})
	b.Rows[0][2].Number = 0
	if e := third(sheet.Merge(starts(), a, b)); e != api.ErrCount {
		t.Error(e)
	}
}

// P10.5: all merges are those of the slow reading.
func TestAllMerges(t *testing.T) {
	g := rand.New(rand.NewSource(9))
	good, conflicts := 0, 0
	for range 30000 {
		base := someSheet(g, sheet.Kind(g.Intn(5)))
		a := version(g, base)
		b := version(g, pick(g, base, base, a))
		want, keys, e := merged(base, a, b)
		if e != api.OK {
			t.Fatal(e)
		}
		isMerged(t, base, a, b, want, keys...)
		if len(keys) > 0 {
			conflicts++
		} else {
			good++
		}
	}
	if t.Failed() || good < 1000 || conflicts < 1000 {
		t.Error(good, conflicts)
	}
}
