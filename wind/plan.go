package wind

import (
	"iter"

	"klister/api"
)

// situation is one of a plan: a shot, the waits that are left, the state of the
// wind, and the click that is set.
type situation struct{ shot, waits, state, click int }

// plan is a range at work with rules.
type plan struct {
	*work
	Rules
}

// CheckRules returns the error of a range and rules.
func CheckRules(r Range, p Rules) api.Errno {
	_, e := beginPlan(r, p)
	return e
}

// beginPlan begins the work on a range with rules, if both are valid.
func beginPlan(r Range, p Rules) (plan, api.Errno) {
	w, e := begin(r)
	if e != api.OK {
		return plan{}, e
	}
	if !within(p.Miss, 0, MaxMiss) || !within(p.Click, 0, MaxCost) ||
		!within(p.Wait, 0, MaxCost) || !within(p.Waits, 0, MaxWaits) {
		return plan{}, api.ErrRange
	}
	return plan{w, p}, api.OK
}

// Values returns the values of all situations.
func Values(r Range, p Rules) ([]int, api.Errno) {
	w, e := beginPlan(r, p)
	if e != api.OK {
		return nil, e
	}
	var list []int
	value := w.filled()
	for s := range w.situations() {
		list = append(list, value(s))
	}
	return list, api.OK
}

// Proves returns what values prove.
func Proves(r Range, p Rules, values []int) (api.Ratio, api.Errno) {
	w, e := beginPlan(r, p)
	if e != api.OK {
		return api.Ratio{}, e
	}
	if len(values) != w.size() {
		return api.Ratio{}, api.ErrCount
	}
	if !every(values, func(n int) bool { return within(n, 0, MaxValue) }) {
		return api.Ratio{}, api.ErrRange
	}
	known := map[situation]int{}
	for s := range w.situations() {
		known[s] = values[len(known)]
	}
	if !w.hold(known) {
		return api.Ratio{}, api.ErrWrong
	}
	return w.begun(known), api.OK
}

// situations yields all situations in the order of values.
func (p plan) situations() iter.Seq[situation] {
	return func(yield func(situation) bool) {
		for k := range Shots {
			for waits := range p.Waits + 1 {
				for state := range p.Drifts {
					for click := -p.Clicks; click <= p.Clicks; click++ {
						if !yield(situation{k, waits, state, click}) {
							return
						}
					}
				}
			}
		}
	}
}

// size returns how many situations there are.
func (p plan) size() int { return Shots * (p.Waits + 1) * len(p.Drifts) * (2*p.Clicks + 1) }

// filled returns what computes the value of a situation, as a number. What it
// has computed once it knows.
func (p plan) filled() func(situation) int {
	values := map[situation]int{}
	var value func(situation) int
	value = func(s situation) int {
		n, known := values[s]
		if !known {
			_, n = p.best(s, value)
			values[s] = n
		}
		return n
	}
	return value
}

// best returns the choice that costs the least that can be expected, and its
// cost, if the situations that follow have some values. All of them are numbers.
func (p plan) best(s situation, value func(situation) int) (Choice, int) {
	return contest[Choice]{p.choices(s), func(c Choice) int { return p.cost(s, c, value) }}.won()
}

// choices yields what can be chosen in a situation: first to shoot, with the
// click that is set and then with the nearest ones, and at last to wait.
func (p plan) choices(s situation) iter.Seq[Choice] {
	return func(yield func(Choice) bool) {
		for click := range p.clicks(s.click) {
			if !yield(Choice{Click: click}) {
				return
			}
		}
		if s.waits > 0 {
			yield(Choice{Wait: true})
		}
	}
}

// cost returns what can be expected of a choice, if the situations that follow
// have some values. All of them are numbers, which are whole, since the one of a
// situation stands for Total times as much as those of the situations that follow.
func (p plan) cost(s situation, c Choice, value func(situation) int) int {
	now, then := p.once(s, c), p.after(s, c)
	n := now * power(p.Total, Shots-1-s.shot+s.waits)
	if then.shot == Shots {
		return n
	}
	for state, weight := range p.Next[s.state] {
		then.state = state
		n += weight * value(then)
	}
	return n
}

// once returns what can be expected of a choice itself, by the sum of the group.
func (p plan) once(s situation, c Choice) int {
	if c == (Choice{Wait: true}) {
		return p.Wait * p.sum
	}
	return p.turn(s, c)*p.sum + p.Miss*p.misses(p.Drifts[s.state], c.Click)
}

// turn returns what it costs to change the sight to the click of a choice.
func (p plan) turn(s situation, c Choice) int { return p.Click * distance(s.click, c.Click) }

// after returns the situation that follows a choice, but for its state.
func (p plan) after(s situation, c Choice) situation {
	if c == (Choice{Wait: true}) {
		s.waits--
		return s
	}
	s.shot++
	s.click = c.Click
	return s
}

// hold reports whether the numbers of situations hold.
func (p plan) hold(numbers map[situation]int) bool {
	value := func(s situation) int { return numbers[s] }
	for s := range p.situations() {
		if _, least := p.best(s, value); numbers[s] > least {
			return false
		}
	}
	return true
}

// begun returns the cost that is expected at the beginning, by numbers of situations.
func (p plan) begun(numbers map[situation]int) api.Ratio {
	n := 0
	for state, weight := range p.First {
		n += weight * numbers[situation{waits: p.Waits, state: state}]
	}
	return ratio(n, p.sum*power(p.Total, Shots+p.Waits))
}
