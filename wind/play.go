package wind

import "klister/api"

// Choose returns a choice that costs the least that can be expected.
func Choose(r Range, p Rules, shot, waits, state, click int) (Choice, api.Errno) {
	w, e := beginPlan(r, p)
	if e != api.OK {
		return Choice{}, e
	}
	if !within(shot, 0, Shots-1) || !w.hasState(state) {
		return Choice{}, api.ErrUnknown
	}
	if !within(waits, 0, p.Waits) || !w.hasClick(click) {
		return Choice{}, api.ErrRange
	}
	choice, _ := w.best(situation{shot, waits, state, click}, w.filled())
	return choice, api.OK
}

// Follow follows Choose from the beginning.
func Follow(r Range, p Rules, states, offsets []int) (Play, api.Errno) {
	w, e := beginPlan(r, p)
	if e != api.OK {
		return Play{}, e
	}
	if len(offsets) != Shots || len(states) > Shots+p.Waits {
		return Play{}, api.ErrCount
	}
	if !every(states, w.hasState) {
		return Play{}, api.ErrUnknown
	}
	if !every(offsets, w.hasOffset) {
		return Play{}, api.ErrRange
	}
	return w.play(states, offsets)
}

// play goes through the steps of a play, if there is a state for each of them.
func (p plan) play(states, offsets []int) (Play, api.Errno) {
	var played Play
	now, value := situation{waits: p.Waits}, p.filled()
steps:
	for _, state := range states {
		now.state = state
		choice, _ := p.best(now, value)
		played.Steps++
		switch {
		case choice == Choice{Wait: true}:
			played.Cost += p.Wait
		case p.aim(p.Drifts[state], choice.Click).hits(offsets[now.shot]):
			played.Cost += p.turn(now, choice)
		default:
			played.Cost += p.turn(now, choice) + p.Miss
			played.Misses++
		}
		now = p.after(now, choice)
		if now.shot == Shots {
			break steps
		}
	}
	if now.shot < Shots {
		return Play{}, api.ErrNone
	}
	return played, api.OK
}
