package course_test

import (
	"math"
	"math/rand"
	"slices"
	"testing"

	"klister/api"
	"klister/course"
)

// threeDays is the winter of the chapter's fourth example, with the need of its last day.
func threeDays(need int) course.Winter {
	return course.Winter{Stock: 500, Store: 800, Days: []course.Day{
		{Need: span(300, 300), Make: span(100, 200), Loss: span(10, 20)},
		{Need: span(200, 400), Make: span(300, 600), Loss: span(10, 20)},
		{Need: span(need, need), Make: span(0, 100), Loss: span(10, 20)},
	}}
}

// harsh is the worst weather of that winter.
func harsh(need int) course.Weather {
	return course.Weather{Need: []int{300, 400, need}, Make: []int{100, 300, 0}, Loss: []int{20, 20, 20}}
}

// fixed returns a winter, and its only weather.
func fixed(stock, store int, need, made, loss []int) (course.Winter, course.Weather) {
	w := course.Winter{Stock: stock, Store: store}
	for i := range need {
		w.Days = append(w.Days, course.Day{Need: span(need[i], need[i]), Make: span(made[i], made[i]), Loss: span(loss[i], loss[i])})
	}
	return w, course.Weather{Need: need, Make: made, Loss: loss}
}

// storeAndRun is a winter that fills its store for some days, and empties it for as many.
func storeAndRun(stock, store, days, much int) course.Winter {
	w := course.Winter{Stock: stock, Store: store}
	for i := 0; i < days; i++ {
		w.Days = append(w.Days, course.Day{Make: span(much, much)})
	}
	for i := 0; i < days; i++ {
		w.Days = append(w.Days, course.Day{Need: span(0, much)})
	}
	return w
}

func sameWeather(a, b course.Weather) bool {
	return slices.Equal(a.Need, b.Need) && slices.Equal(a.Make, b.Make) && slices.Equal(a.Loss, b.Loss)
}

// tell asks all that is asked of a weather; the errors of the calls have to be equal.
func tell(t *testing.T, w course.Winter, x course.Weather) (story, api.Errno) {
	t.Helper()
	stocks, e1 := course.Stocks(w, x)
	made, e2 := course.Made(w, x)
	piles, e3 := course.Piles(w, x)
	fails, e4 := course.Fails(w, x)
	if e1 != e2 || e1 != e3 || e1 != e4 {
		t.Error("errors that are not the same", w, x, e1, e2, e3, e4)
	}
	return story{stocks, made, piles, fails}, e1
}

func sameStory(a, b story) bool {
	return slices.Equal(a.stocks, b.stocks) && slices.Equal(a.made, b.made) && slices.Equal(a.piles, b.piles) && a.fails == b.fails
}

// callsOfWinter calls each function that has the errors of CheckWinter, and
// returns what each returns, and whether all else is zero.
func callsOfWinter(t *testing.T, w course.Winter) (errors []api.Errno, zero bool) {
	t.Helper()
	told, e1 := tell(t, w, course.Weather{})
	worst, e2 := course.Worst(w)
	first, e3 := course.First(w)
	why, e4 := course.Why(w)
	lack, e5 := course.Proves(w, course.Proof{From: 5, Day: -1})
	least, e6 := course.Least(w)
	room, e7 := course.Room(w)
	ranges, e8 := course.Ranges(w)
	zero = sameStory(told, story{}) && sameWeather(worst, course.Weather{}) && first == 0 && why == course.Proof{} && lack == 0 && least == 0 && room == 0 && len(ranges) == 0
	return []api.Errno{course.CheckWinter(w), e1, e2, e3, e4, e5, e6, e7, e8}, zero
}

type winterChange func(w *course.Winter)

// P1.4: winters at the ends of what is allowed.
func TestCheckWinterAllows(t *testing.T) {
	for i, x := range []winterChange{
		func(w *course.Winter) {},
		func(w *course.Winter) { w.Stock = 0 },
		func(w *course.Winter) { w.Stock = 800 },
		func(w *course.Winter) { w.Stock, w.Store = 0, 1 },
		func(w *course.Winter) { w.Stock, w.Store = 1, 1 },
		func(w *course.Winter) { w.Stock, w.Store = 1000000, 1000000 },
		func(w *course.Winter) { w.Days = make([]course.Day, 1) },
		func(w *course.Winter) { w.Days = make([]course.Day, 60) },
		func(w *course.Winter) { w.Days[1].Need = span(0, 100000) },
		func(w *course.Winter) { w.Days[1].Need = span(7, 7) },
		func(w *course.Winter) { w.Days[1].Make = span(0, 100000) },
		func(w *course.Winter) { w.Days[1].Make = span(100000, 100000) },
		func(w *course.Winter) { w.Days[1].Loss = span(0, 100000) },
		func(w *course.Winter) { w.Days[1].Loss = span(0, 0) },
	} {
		w := threeDays(500)
		x(&w)
		if e := course.CheckWinter(w); e != api.OK {
			t.Error(i, e)
		}
		if _, e := course.Worst(w); e != api.OK {
			t.Error(i, e)
		}
	}
}

// P1.4 to P1.6: what is not allowed, and which error is first, in all calls with these errors.
func TestCheckWinterRefuses(t *testing.T) {
	for i, x := range []struct {
		change winterChange
		want   api.Errno
	}{
		{func(w *course.Winter) { w.Stock = -1 }, api.ErrRange},
		{func(w *course.Winter) { w.Stock = 801 }, api.ErrRange},
		{func(w *course.Winter) { w.Stock = math.MaxInt }, api.ErrRange},
		{func(w *course.Winter) { w.Stock, w.Store = 0, 0 }, api.ErrRange},
		{func(w *course.Winter) { w.Store = -5 }, api.ErrRange},
		{func(w *course.Winter) { w.Stock, w.Store = -2, -1 }, api.ErrRange},
		{func(w *course.Winter) { w.Store = 1000001 }, api.ErrRange},
		{func(w *course.Winter) { w.Store = math.MinInt }, api.ErrRange},
		{func(w *course.Winter) { w.Store = 0; w.Days = nil }, api.ErrRange},
		{func(w *course.Winter) { w.Stock = 801; w.Days = make([]course.Day, 61) }, api.ErrRange},
		{func(w *course.Winter) { w.Days = nil }, api.ErrCount},
		{func(w *course.Winter) { w.Days = []course.Day{} }, api.ErrCount},
		{func(w *course.Winter) { w.Days = make([]course.Day, 61) }, api.ErrCount},
		{func(w *course.Winter) { w.Days = make([]course.Day, 61); w.Days[0].Need = span(1, 0) }, api.ErrCount},
		{func(w *course.Winter) { w.Days[0].Need = span(-1, 5) }, api.ErrRange},
		{func(w *course.Winter) { w.Days[2].Need = span(5, 100001) }, api.ErrRange},
		{func(w *course.Winter) { w.Days[2].Need = span(6, 5) }, api.ErrRange},
		{func(w *course.Winter) { w.Days[2].Make = span(-1, 5) }, api.ErrRange},
		{func(w *course.Winter) { w.Days[2].Make = span(5, 100001) }, api.ErrRange},
		{func(w *course.Winter) { w.Days[2].Make = span(6, 5) }, api.ErrRange},
		{func(w *course.Winter) { w.Days[2].Loss = span(-1, 5) }, api.ErrRange},
		{func(w *course.Winter) { w.Days[2].Loss = span(5, 100001) }, api.ErrRange},
		{func(w *course.Winter) { w.Days[2].Loss = span(6, 5) }, api.ErrRange},
		{func(w *course.Winter) { w.Days[2].Loss = span(math.MaxInt, math.MinInt) }, api.ErrRange},
	} {
		w := threeDays(500)
		x.change(&w)
		errors, zero := callsOfWinter(t, w)
		for j, e := range errors {
			if e != x.want {
				t.Error(i, j, e)
			}
		}
		if !zero {
			t.Error(i, "a result beside an error")
		}
	}
}

// P1.4: the errors of a weather, in their order.
func TestWeatherRefuses(t *testing.T) {
	for i, x := range []struct {
		change func(x *course.Weather)
		want   api.Errno
	}{
		{func(x *course.Weather) {}, api.OK},
		{func(x *course.Weather) { *x = course.Weather{} }, api.ErrCount},
		{func(x *course.Weather) { x.Need = x.Need[:2] }, api.ErrCount},
		{func(x *course.Weather) { x.Make = nil }, api.ErrCount},
		{func(x *course.Weather) { x.Loss = x.Loss[1:] }, api.ErrCount},
		{func(x *course.Weather) { x.Need = append(x.Need, 0) }, api.ErrCount},
		{func(x *course.Weather) { x.Make = append(x.Make, 0) }, api.ErrCount},
		{func(x *course.Weather) { x.Loss = append(x.Loss, 0) }, api.ErrCount},
		{func(x *course.Weather) { x.Loss = append(x.Loss, 0); x.Need[0] = -1 }, api.ErrCount},
		{func(x *course.Weather) { x.Need[1] = 199 }, api.ErrRange},
		{func(x *course.Weather) { x.Need[1] = 401 }, api.ErrRange},
		{func(x *course.Weather) { x.Need[1] = math.MaxInt }, api.ErrRange},
		{func(x *course.Weather) { x.Make[0] = 99 }, api.ErrRange},
		{func(x *course.Weather) { x.Make[0] = 201 }, api.ErrRange},
		{func(x *course.Weather) { x.Make[2] = math.MinInt }, api.ErrRange},
		{func(x *course.Weather) { x.Loss[2] = 9 }, api.ErrRange},
		{func(x *course.Weather) { x.Loss[2] = 21 }, api.ErrRange},
	} {
		w := harsh(500)
		x.change(&w)
		got, e := tell(t, threeDays(500), w)
		if e != x.want || e != api.OK && !sameStory(got, story{}) {
			t.Error(i, got, e)
		}
	}
	bad := threeDays(500)
	bad.Days[2].Loss = span(6, 5)
	if _, e := tell(t, bad, course.Weather{}); e != api.ErrRange {
		t.Error(e)
	}
}

// P1.4: what happens on days, by hand.
func TestTold(t *testing.T) {
	zero := []int{0, 0}
	for i, x := range []struct {
		stock, store     int
		need, made, loss []int
		want             story
	}{
		// all that there is is taken out, and nothing is left in piles
		{5, 5, []int{5}, []int{0}, []int{0}, story{[]int{0}, []int{0}, nil, course.None}},
		// one too few: the piles of the morning are left
		{4, 5, []int{5}, []int{0}, []int{0}, story{nil, nil, []course.Pile{{Day: course.None, Much: 4}}, 0}},
		{0, 5, []int{1}, []int{0}, []int{0}, story{nil, nil, nil, 0}},
		// more is lost than there is
		{3, 5, []int{2}, []int{2}, []int{9}, story{[]int{0}, []int{2}, nil, course.None}},
		// snow is lost before it is made, and made before it is taken out
		{5, 5, []int{5}, []int{3}, []int{2}, story{[]int{0}, []int{2}, nil, course.None}},
		// the store is full
		{5, 5, []int{0}, []int{3}, []int{0}, story{[]int{5}, []int{0}, []course.Pile{{Day: course.None, Much: 5}}, course.None}},
		{4, 5, []int{0}, []int{3}, []int{0}, story{[]int{5}, []int{1}, []course.Pile{{Day: course.None, Much: 4}, {Day: 0, Much: 1}}, course.None}},
		{5, 5, []int{6}, []int{9}, []int{0}, story{nil, nil, []course.Pile{{Day: course.None, Much: 5}}, 0}},
		// the oldest pile goes first, and a pile that is gone is none
		{2, 9, []int{1, 2}, []int{3, 3}, zero, story{[]int{4, 5}, []int{3, 3}, []course.Pile{{Day: 0, Much: 2}, {Day: 1, Much: 3}}, course.None}},
		{2, 9, []int{2, 3}, []int{3, 3}, zero, story{[]int{3, 3}, []int{3, 3}, []course.Pile{{Day: 1, Much: 3}}, course.None}},
		{2, 9, []int{0, 0}, []int{3, 0}, []int{1, 2}, story{[]int{4, 2}, []int{3, 0}, []course.Pile{{Day: 0, Much: 2}}, course.None}},
		// nothing happens after the first day that fails
		{1, 9, []int{2, 0}, []int{0, 9}, zero, story{nil, nil, []course.Pile{{Day: course.None, Much: 1}}, 0}},
		{1, 9, []int{0, 3}, []int{1, 0}, zero, story{[]int{2}, []int{1}, []course.Pile{{Day: course.None, Much: 1}, {Day: 0, Much: 1}}, 1}},
		// what is made on the day that fails, and lost on it, does not count
		{4, 9, []int{1, 9}, []int{0, 2}, []int{0, 1}, story{[]int{3}, []int{0}, []course.Pile{{Day: course.None, Much: 3}}, 1}},
	} {
		w, sky := fixed(x.stock, x.store, x.need, x.made, x.loss)
		if got, e := tell(t, w, sky); !sameStory(got, x.want) || e != api.OK {
			t.Error(i, got, e)
		}
	}
}

// P1.4 to P1.6: examples 4 and 5 of the chapter.
func TestWinterOfExamples(t *testing.T) {
	w := threeDays(500)
	worst, e := course.Worst(w)
	if !sameWeather(worst, harsh(500)) || e != api.OK {
		t.Error(worst, e)
	}
	got, e := tell(t, w, worst)
	if !sameStory(got, story{[]int{280, 160}, []int{100, 300}, []course.Pile{{Day: 1, Much: 160}}, 2}) || e != api.OK {
		t.Error(got, e)
	}
	if n, e := course.First(w); n != 2 || e != api.OK {
		t.Error(n, e)
	}
	if n, e := course.Proves(w, course.Proof{From: course.None, Day: 2}); n != 360 || e != api.OK {
		t.Error(n, e)
	}
	if l, e := course.Ranges(w); !slices.Equal(l, []api.Span{span(280, 390), span(160, 600)}) || e != api.OK {
		t.Error(l, e)
	}
	if n, e := course.Least(w); n != 0 || e != api.ErrNone {
		t.Error(n, e)
	}
	if n, e := course.Room(w); n != 0 || e != api.ErrNone {
		t.Error(n, e)
	}
	w.Stock, w.Store = 860, 940
	if n, e := course.Least(w); n != 860 || e != api.OK {
		t.Error(n, e)
	}
	if n, e := course.Room(w); n != 940 || e != api.OK {
		t.Error(n, e)
	}
	w = threeDays(100)
	w.Days[2].Need.Lo = 0
	n, e := course.First(w)
	p, f := course.Why(w)
	if n != 0 || e != api.ErrNone || p != (course.Proof{}) || f != api.ErrNone {
		t.Error(n, e, p, f)
	}
	if n, e := course.Least(w); n != 460 || e != api.OK {
		t.Error(n, e)
	}
	if n, e := course.Room(w); n != 540 || e != api.OK {
		t.Error(n, e)
	}
}

// P1.5: proofs by hand: what they show, and what is refused.
func TestProves(t *testing.T) {
	late, _ := fixed(3, 5, []int{0, 3, 3}, []int{4, 0, 0}, []int{0, 0, 1})
	high, _ := fixed(3, 5, []int{0, 6}, []int{4, 9}, []int{0, 0})
	melt, _ := fixed(2, 5, []int{0, 4}, []int{3, 0}, []int{9, 0})
	early, _ := fixed(1, 5, []int{2, 5}, []int{0, 0}, []int{0, 0})
	over, _ := fixed(5, 5, []int{0, 8, 2}, []int{3, 0, 0}, []int{0, 0, 0})
	for i, x := range []struct {
		w         course.Winter
		from, day int
		want      int
		e         api.Errno
	}{
		{threeDays(500), course.None, 2, 360, api.OK},
		{threeDays(500), 0, 2, 140, api.OK},
		{threeDays(500), 1, 2, 120, api.OK},
		{threeDays(500), 2, 2, 0, api.ErrWrong},
		{threeDays(500), course.None, 1, 0, api.ErrWrong},
		{threeDays(500), course.None, 0, 0, api.ErrWrong},
		{threeDays(161), course.None, 2, 21, api.OK},
		{threeDays(141), course.None, 2, 1, api.OK},
		{threeDays(140), course.None, 2, 0, api.ErrWrong},
		// reckoned from the beginning more is made than the store holds
		{late, course.None, 2, 0, api.ErrWrong},
		{late, 0, 2, 2, api.OK},
		{late, 1, 2, 2, api.OK},
		{late, 2, 2, 0, api.ErrWrong},
		// the day needs more than the store holds
		{high, 1, 1, 1, api.OK},
		{high, 0, 1, 0, api.ErrWrong},
		{high, course.None, 1, 0, api.ErrWrong},
		// not more is lost than there is
		{melt, course.None, 1, 1, api.OK},
		{melt, 0, 1, 0, api.ErrWrong},
		// a day before is short already
		{early, course.None, 0, 1, api.OK},
		{early, course.None, 1, 0, api.ErrWrong},
		{early, 0, 1, 2, api.OK},
		// exactly nothing is left on a day before
		{over, course.None, 2, 2, api.OK},
		{over, 0, 2, 0, api.ErrWrong},
		{over, 0, 1, 3, api.OK},
		{threeDays(500), course.None, 3, 0, api.ErrUnknown},
		{threeDays(500), course.None, -1, 0, api.ErrUnknown},
		{threeDays(500), -1, math.MinInt, 0, api.ErrUnknown},
		{threeDays(500), 0, math.MaxInt, 0, api.ErrUnknown},
		{threeDays(500), 2, 1, 0, api.ErrUnknown},
		{threeDays(500), 3, 2, 0, api.ErrUnknown},
		{threeDays(500), -2, 1, 0, api.ErrUnknown},
		{threeDays(500), math.MaxInt, 1, 0, api.ErrUnknown},
		{threeDays(500), math.MinInt, 2, 0, api.ErrUnknown},
	} {
		if n, e := course.Proves(x.w, course.Proof{From: x.from, Day: x.day}); n != x.want || e != x.e {
			t.Error(i, n, e)
		}
	}
}

// P1.5 and P1.6: winters by hand: the first day that fails, and what would be enough.
func TestOpen(t *testing.T) {
	late, _ := fixed(3, 5, []int{0, 3, 3}, []int{4, 0, 0}, []int{0, 0, 1})
	high, _ := fixed(3, 5, []int{0, 6}, []int{4, 9}, []int{0, 0})
	melt, _ := fixed(2, 5, []int{0, 3}, []int{3, 0}, []int{9, 0})
	free := course.Winter{Stock: 700, Store: 800, Days: make([]course.Day, 3)}
	for i, x := range []struct {
		w                  course.Winter
		first, least, room int
		e, f, g            api.Errno
	}{
		{late, 2, 0, 7, api.OK, api.ErrNone, api.OK},
		{high, 1, 0, 6, api.OK, api.ErrNone, api.OK},
		{melt, 0, 0, 3, api.ErrNone, api.OK, api.OK},
		{free, 0, 0, 700, api.ErrNone, api.OK, api.OK},
		{course.Winter{Store: 9, Days: make([]course.Day, 1)}, 0, 0, 1, api.ErrNone, api.OK, api.OK},
		{threeDays(140), 0, 500, 580, api.ErrNone, api.OK, api.OK},
		{threeDays(141), 2, 501, 0, api.OK, api.OK, api.ErrNone},
		{storeAndRun(0, 1, 10, 100000), 10, 0, 1000000, api.OK, api.ErrNone, api.OK},
		{storeAndRun(0, 1000000, 10, 100000), 0, 0, 1000000, api.ErrNone, api.OK, api.OK},
		{storeAndRun(0, 1000000, 11, 100000), 21, 0, 0, api.OK, api.ErrNone, api.ErrNone},
		{course.Winter{Store: 1000000, Days: storeAndRun(0, 1, 10, 100000).Days[10:]}, 0, 1000000, 0, api.OK, api.OK, api.ErrNone},
		{course.Winter{Store: 999999, Days: storeAndRun(0, 1, 10, 100000).Days[10:]}, 0, 0, 0, api.OK, api.ErrNone, api.ErrNone},
	} {
		n, e := course.First(x.w)
		least, f := course.Least(x.w)
		room, g := course.Room(x.w)
		if n != x.first || least != x.least || room != x.room || e != x.e || f != x.f || g != x.g {
			t.Error(i, n, least, room, e, f, g)
		}
	}
}

// P1.4 to P1.7: small winters, against all their weathers.
func TestSmallWinters(t *testing.T) {
	g := rand.New(rand.NewSource(3))
	for i := 0; i < 400; i++ {
		w := someWinter(g)
		first := firstOf(w)
		var ranges []api.Span
		for _, sky := range weathers(w.Days) {
			want := told(w, sky)
			if got, e := tell(t, w, sky); !sameStory(got, want) || e != api.OK {
				t.Fatal(w, sky, got, want, e)
			}
			for day, n := range want.stocks {
				if day == len(ranges) {
					ranges = append(ranges, span(n, n))
				}
				ranges[day] = span(min(n, ranges[day].Lo), max(n, ranges[day].Hi))
			}
		}
		if first != course.None {
			ranges = ranges[:first]
		}
		if l, e := course.Ranges(w); !slices.Equal(l, ranges) || e != api.OK {
			t.Fatal(w, l, ranges, e)
		}
		checkFirst(t, w, first)
		checkEnough(t, w)
	}
}

// checkFirst compares the day that is named, and tries all proofs.
func checkFirst(t *testing.T, w course.Winter, first int) {
	t.Helper()
	n, e := course.First(w)
	p, f := course.Why(w)
	if first == course.None {
		if n != 0 || p != (course.Proof{}) || e != api.ErrNone || f != api.ErrNone {
			t.Fatal(w, n, p, e, f)
		}
	} else if lack, g := course.Proves(w, p); n != first || p.Day != first || lack < 1 || e != api.OK || f != api.OK || g != api.OK {
		t.Fatal(w, n, p, lack, e, f, g)
	}
	for day := range w.Days {
		for from := course.None; from <= day; from++ {
			p := course.Proof{From: from, Day: day}
			lack, e := course.Proves(w, p)
			if want := proved(w, p); lack != want || (e == api.OK) != (want > 0) || e != api.OK && e != api.ErrWrong {
				t.Fatal(w, p, lack, want, e)
			}
			if lack > 0 && (first == course.None || first > day) {
				t.Fatal("a proof of a day up to which none can fail", w, p, first)
			}
		}
	}
}

// checkEnough tries all stocks up to the store, and stores up to one in which
// no more can be lost for lack of room.
func checkEnough(t *testing.T, w course.Winter) {
	t.Helper()
	want, e := 0, api.ErrNone
	for stock := w.Store; stock >= 0; stock-- {
		if firstOf(course.Winter{Stock: stock, Store: w.Store, Days: w.Days}) == course.None {
			want, e = stock, api.OK
		}
	}
	if n, f := course.Least(w); n != want || f != e {
		t.Fatal(w, n, want, f)
	}
	want, e = 0, api.ErrNone
	for store := 40; store >= max(1, w.Stock); store-- {
		if firstOf(course.Winter{Stock: w.Stock, Store: store, Days: w.Days}) == course.None {
			want, e = store, api.OK
		}
	}
	if n, f := course.Room(w); n != want || f != e {
		t.Fatal(w, n, want, f)
	}
}

// P1.7: more stock, room and snow, less need and less loss make no day fail,
// and less snow does not postpone the first day that fails.
func TestMoreIsNotWorse(t *testing.T) {
	g := rand.New(rand.NewSource(4))
	less := func(n *int) { *n -= g.Intn(*n + 1) }
	for i := 0; i < 3000; i++ {
		w := someWinter(g)
		better := w
		better.Stock += g.Intn(3)
		better.Store = max(better.Stock, w.Store) + g.Intn(3)
		better.Days = slices.Clone(w.Days)
		d := &better.Days[g.Intn(len(w.Days))]
		switch g.Intn(3) {
		case 0:
			d.Make.Lo += g.Intn(3)
			d.Make.Hi = max(d.Make.Lo, d.Make.Hi)
		case 1:
			less(&d.Need.Hi)
			d.Need.Lo = min(d.Need.Lo, d.Need.Hi)
		case 2:
			less(&d.Loss.Hi)
			d.Loss.Lo = min(d.Loss.Lo, d.Loss.Hi)
		}
		n, e := course.First(w)
		m, f := course.First(better)
		if f == api.OK && (e != api.OK || m < n) {
			t.Fatal(w, better, n, m, e, f)
		}
	}
}

// P0.1, P0.2: the longest winter with the greatest numbers.
func TestGreatestWinter(t *testing.T) {
	w := course.Winter{Stock: course.MaxStore, Store: course.MaxStore, Days: make([]course.Day, course.MaxDays)}
	for i := range w.Days {
		w.Days[i] = course.Day{Need: span(0, course.MaxMuch), Make: span(0, course.MaxMuch), Loss: span(0, course.MaxMuch)}
	}
	n, e := course.First(w)
	p, f := course.Why(w)
	if n != 5 || p.Day != 5 || e != api.OK || f != api.OK {
		t.Error(n, p, e, f)
	}
	if lack, e := course.Proves(w, p); lack != 100000 || e != api.OK {
		t.Error(lack, e)
	}
	if l, e := course.Ranges(w); len(l) != 5 || l[0] != span(800000, 1000000) || l[4] != span(0, 1000000) || e != api.OK {
		t.Error(l, e)
	}
	for i := range w.Days {
		w.Days[i] = course.Day{Need: span(0, course.MaxMuch), Make: span(course.MaxMuch, course.MaxMuch)}
	}
	if n, e := course.Least(w); n != 0 || e != api.OK {
		t.Error(n, e)
	}
	if l, e := course.Ranges(w); len(l) != 60 || l[59] != span(900000, 1000000) || e != api.OK {
		t.Error(l, e)
	}
}

// P1.4 to P1.6: arguments are not modified, and results share no memory (R4).
func TestWinterMemory(t *testing.T) {
	w, sky := threeDays(500), harsh(500)
	tell(t, w, sky)
	course.First(w)
	course.Why(w)
	course.Least(w)
	course.Room(w)
	course.Ranges(w)
	worst, _ := course.Worst(w)
	for _, l := range [][]int{worst.Need, worst.Make, worst.Loss} {
		_ = append(l, 9)
	}
	if !sameWeather(worst, harsh(500)) {
		t.Error("lists of a weather share memory", worst)
	}
	if want := threeDays(500); w.Stock != want.Stock || w.Store != want.Store || !slices.Equal(w.Days, want.Days) || !sameWeather(sky, harsh(500)) {
		t.Error("an argument is modified", w, sky)
	}
	worst.Need[0], worst.Make[0], worst.Loss[0] = 1, 2, 3
	if again, e := course.Worst(w); !sameWeather(again, harsh(500)) || e != api.OK {
		t.Error(again, e)
	}
}
