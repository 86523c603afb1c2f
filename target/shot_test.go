package target_test

import (
	"math"
	"math/rand"
	"slices"
	"testing"

	"klister/api"
	"klister/target"
)

// at returns shots at these numbers, X and Y of each in turn.
func at(numbers ...int) []target.Shot {
	var shots []target.Shot
	for i := 0; i+1 < len(numbers); i += 2 {
		shots = append(shots, target.Shot{X: numbers[i], Y: numbers[i+1]})
	}
	return shots
}

// fives are the shots of the chapter's fourth example.
func fives() []target.Shot { return at(0, 0, 2500, 225, 2600, 300, 5000, 226, 7400, 200) }

// shot compares all that is told of shots.
func shot(t *testing.T, p target.Position, shots []target.Shot, want []int, e api.Errno) {
	falls, f := target.Falls(p, shots)
	loops, g := target.Loops(p, shots)
	spares, h := target.Spares(p, shots)
	standing, spare := 0, 0
	if e == api.OK {
		standing = 5
		for _, n := range want {
			if n > 0 {
				standing--
			}
		}
		spare = max(0, len(shots)-5)
	}
	if !slices.Equal(falls, want) || loops != standing || spares != spare || f != e || g != e || h != e {
		t.Fatal(p, shots, falls, loops, spares, f, g, h)
	}
}

// P3.6: example 4 of the chapter, shots at the rims of targets, and spare rounds.
func TestFalls(t *testing.T) {
	all := at(0, 0, 2500, 0, 5000, 0, 7500, 0, 10000, 0)
	wide := at(-20000, 20000)
	for _, x := range []struct {
		p     target.Position
		shots []target.Shot
		want  []int
	}{
		{target.Prone, fives(), []int{1, 2, 0, 0, 4}},
		{target.Standing, fives(), []int{1, 2, 0, 3, 4}},
		{target.Standing, slices.Concat(fives(), at(10000, 0)), []int{1, 2, 0, 3, 4, 5}},
		{target.Standing, slices.Concat(fives(), at(10000, 576, 10575, 0)), []int{1, 2, 0, 3, 4, 0, 5}},
		{target.Prone, nil, nil},
		{target.Standing, []target.Shot{}, nil},
		{target.Prone, all, []int{1, 2, 3, 4, 5}},
		{target.Standing, []target.Shot{all[4], all[3], all[2], all[1], all[0]}, []int{5, 4, 3, 2, 1}},
		{target.Prone, slices.Concat(wide, wide, wide, all), []int{0, 0, 0, 1, 2, 3, 4, 5}},
		{target.Prone, slices.Repeat(at(0, 0), 8), []int{1, 0, 0, 0, 0, 0, 0, 0}},
		{target.Prone, at(20000, 20000, -20000, -20000, 20000, -20000), []int{0, 0, 0}},
		{target.Prone, at(225, 0, 2275, 0, 5000, -225, 7500, 225, 10225, 0), []int{1, 2, 3, 4, 5}},
		{target.Prone, at(226, 0, 2274, 0, 5000, -226, 7500, 226, 10226, 0), []int{0, 0, 0, 0, 0}},
		{target.Standing, at(575, 0, 1925, 0, 5000, -575, 7500, 575, 10575, 0), []int{1, 2, 3, 4, 5}},
		{target.Standing, at(576, 0, 1924, 0, 5000, -576, 7500, 576, 10576, 0), []int{0, 0, 0, 0, 0}},
		// 135, 180 and 225 are sides of a triangle with a right angle; 345, 460 and 575 too.
		{target.Prone, at(135, 180, 2500-180, -135, 5000+136, 180, 7500+135, -181, 10000-180, 136), []int{1, 2, 0, 0, 0}},
		{target.Standing, at(345, 460, 2500-460, -345, 5000+346, 460, 7500+345, -461, 10000-460, 346), []int{1, 2, 0, 0, 0}},
		{target.Prone, at(225, 225, 200, 200, 159, 159, 160, 160), []int{0, 0, 1, 0}},
		{target.Prone, at(-2500, 0, 12500, 0, 1250, 0), []int{0, 0, 0}},
		{target.Standing, at(-2500, 0, 12500, 0, 1250, 0), []int{0, 0, 0}},
	} {
		shot(t, x.p, x.shots, x.want, api.OK)
	}
}

// P3.6: what is refused, and which error is first.
func TestFallsRefuses(t *testing.T) {
	all := at(0, 0, 2500, 0, 5000, 0, 7500, 0, 10000, 0)
	for _, x := range []struct {
		p     target.Position
		shots []target.Shot
		want  api.Errno
	}{
		{2, nil, api.ErrRange},
		{-1, nil, api.ErrRange},
		{2, make([]target.Shot, 9), api.ErrRange},
		{math.MaxInt, all, api.ErrRange},
		{math.MinInt, slices.Concat(all, all), api.ErrRange},
		{target.Prone, make([]target.Shot, 9), api.ErrCount},
		{target.Standing, slices.Concat(all, at(20001, 0, 0, 0, 0, 0, 0, 0)), api.ErrCount},
		{target.Prone, slices.Concat(all, all), api.ErrCount},
		{target.Prone, at(20001, 0), api.ErrRange},
		{target.Prone, at(-20001, 0), api.ErrRange},
		{target.Prone, at(0, 20001), api.ErrRange},
		{target.Standing, at(0, 0, 0, -20001), api.ErrRange},
		{target.Prone, at(math.MinInt, 0), api.ErrRange},
		{target.Prone, at(0, math.MaxInt), api.ErrRange},
		{target.Prone, at(1<<32, 1<<32), api.ErrRange},
		{target.Prone, slices.Concat(all, at(0, 0, 20001, 0)), api.ErrRange},
		{target.Prone, slices.Concat(all, at(0, 20001)), api.ErrRange},
		{target.Prone, slices.Concat(all, at(0, 0)), api.ErrClosed},
		{target.Standing, slices.Concat(all, at(20000, 20000)), api.ErrClosed},
		{target.Standing, slices.Concat(fives(), at(10000, 0, 0, 0)), api.ErrClosed},
		{target.Prone, slices.Concat(all, at(0, 0, 0, 0, 0, 0)), api.ErrClosed},
	} {
		shot(t, x.p, x.shots, nil, x.want)
	}
}

// P3.6: random shots, target by target.
func TestRandomShots(t *testing.T) {
	g := rand.New(rand.NewSource(12))
	for range 20000 {
		p := target.Position(g.Intn(2))
		radius := []int{225, 575}[p]
		var shots []target.Shot
		for range g.Intn(9) {
			shots = append(shots, target.Shot{X: g.Intn(5)*2500 + g.Intn(2*radius+21) - radius - 10, Y: g.Intn(radius) - radius/2})
		}
		want, e := make([]int, len(shots)), api.OK
		fallen := map[int]bool{}
		for i, s := range shots {
			if len(fallen) == 5 {
				want, e = nil, api.ErrClosed
				break
			}
			for n := 1; n <= 5; n++ {
				away := math.Hypot(float64(s.X-2500*(n-1)), float64(s.Y))
				if away <= float64(radius) && !fallen[n] {
					fallen[n] = true
					want[i] = n
				}
			}
		}
		shot(t, p, shots, want, e)
	}
}

// R4: shots are not modified, and results are new.
func TestShotMemory(t *testing.T) {
	shots := fives()
	for i := range 2 {
		falls, _ := target.Falls(target.Prone, shots)
		target.Loops(target.Prone, shots)
		target.Spares(target.Prone, shots)
		if !slices.Equal(falls, []int{1, 2, 0, 0, 4}) {
			t.Error(i, falls)
		}
		clear(falls)
	}
	if !slices.Equal(shots, fives()) {
		t.Error("an argument is modified", shots)
	}
}
