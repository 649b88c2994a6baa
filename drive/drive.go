// Package drive is layer 1: escalators in motion, how far they take to stop, and how far they run back.
package drive

import (
	"slices"
	"sort"

	"newel/api"
)

// Check returns ErrDrive unless an escalator is valid (P1.1).
func Check(e api.Escalator) api.Errno {
	bad := func(b api.Brake) bool {
		return !within(b.Force, 0, api.MaxForce) || !within(b.Delay, 0, api.MaxDelay)
	}
	numbers := within(e.Empty, 1, api.MaxWeight) && within(e.Pull, 0, api.MaxPull) &&
		within(e.Drag, 0, api.MaxForce) && within(e.Motor, 0, api.MaxForce)
	if !numbers || len(e.Brakes) > api.MaxBrakes || slices.ContainsFunc(e.Brakes, bad) {
		return api.ErrDrive
	}
	return api.OK
}

// Step returns what a speed becomes in a tick with a load, against this force of the brakes (P1.2).
func Step(e api.Escalator, speed, load, force int) (int, api.Errno) {
	if f := Check(e); f != api.OK {
		return 0, f
	}
	if !within(speed, -api.MaxForce, api.MaxForce) || !within(load, 0, api.MaxWeight) || !within(force, 0, api.MaxBrakes*api.MaxForce) {
		return 0, api.ErrArg
	}
	return next(e, speed, load, force), api.OK
}

// Play returns the speed behind each tick of a history (P1.3).
func Play(e api.Escalator, s api.Stop, loads []int) ([]int, api.Errno) {
	if f := checkStop(e, s); f != api.OK {
		return nil, f
	}
	foreign := func(load int) bool { return !within(load, s.Loads.Low, s.Loads.High) }
	if len(loads) > api.MaxTicks || slices.ContainsFunc(loads, foreign) {
		return nil, api.ErrArg
	}
	speeds := make([]int, len(loads))
	speed := s.Speed
	for tick := range len(loads) {
		speed = next(e, speed, loads[tick], grip(e, s, tick))
		speeds[tick] = speed
	}
	return speeds, api.OK
}

// Distance returns the least and the greatest way of all histories, and their numbers of ticks (P1.4).
func Distance(e api.Escalator, s api.Stop) (way, ticks api.Span, f api.Errno) {
	if f := checkStop(e, s); f != api.OK {
		return api.Span{}, api.Span{}, f
	}
	longest := roll(e, s, true)
	if !longest.rests {
		return api.Span{}, api.Span{}, api.ErrLong
	}
	shortest := roll(e, s, false)
	way = api.Span{Low: shortest.way, High: longest.way}
	ticks = api.Span{Low: len(shortest.loads), High: len(longest.loads)}
	return way, ticks, api.OK
}

// Witness returns the loads with which the way is the greatest, or the least one (P1.5).
func Witness(e api.Escalator, s api.Stop, most bool) ([]int, api.Errno) {
	if _, _, f := Distance(e, s); f != api.OK {
		return nil, f
	}
	return roll(e, s, most).loads, api.OK
}

// Back returns the greatest run back of all histories (P1.6).
func Back(e api.Escalator, s api.Stop) (int, api.Errno) {
	if f := checkStop(e, s); f != api.OK {
		return 0, f
	}
	way, ends := runBack(e, s)
	if !ends {
		return 0, api.ErrLong
	}
	return way, api.OK
}

// Holds reports whether a band at rest stays there with each load (P1.7).
func Holds(e api.Escalator, s api.Stop) (bool, api.Errno) {
	if f := checkStop(e, s); f != api.OK {
		return false, f
	}
	return holds(e, s), api.OK
}

// Fastest returns the greatest speed from which each way is at most limit (P1.8).
func Fastest(e api.Escalator, s api.Stop, limit int) (int, api.Errno) {
	if f := checkStop(e, s); f != api.OK {
		return 0, f
	}
	if !within(limit, 0, api.MaxForce) {
		return 0, api.ErrArg
	}
	// From a greater speed no way is less, and from 0 it is 0: what lies behind the first speed that is too fast need not be asked.
	tooFast := func(less int) bool {
		from := s
		from.Speed = less + 1
		return !stopsWithin(e, from, limit)
	}
	return sort.Search(api.MaxSpeed, tooFast), api.OK
}

// Legal reports whether each way is within the limits, and the band holds; otherwise reason says why not (P1.9).
func Legal(e api.Escalator, s api.Stop, limits api.Span) (reason int, is bool, f api.Errno) {
	if f := checkStop(e, s); f != api.OK {
		return 0, false, f
	}
	if !within(limits.High, 0, api.MaxForce) || !within(limits.Low, 0, limits.High) {
		return 0, false, api.ErrArg
	}
	longest := roll(e, s, true)
	switch {
	case !longest.rests:
		return 1, false, api.OK
	case longest.way > limits.High:
		return 2, false, api.OK
	case roll(e, s, false).way < limits.Low:
		return 3, false, api.OK
	case !holds(e, s):
		return 4, false, api.OK
	}
	return 0, true, api.OK
}

// Critical returns the brakes that must not fail, besides those that fail already (P1.10).
func Critical(e api.Escalator, s api.Stop, way, back int) ([]int, api.Errno) {
	if f := checkStop(e, s); f != api.OK {
		return nil, f
	}
	if !within(way, 0, api.MaxForce) || !within(back, 0, api.MaxForce) {
		return nil, api.ErrArg
	}
	var brakes []int
	for number := range len(e.Brakes) {
		if fails(s, number) {
			continue
		}
		without := s
		without.Fail |= 1 << number
		if !safe(e, without, way, back) {
			brakes = append(brakes, number)
		}
	}
	return brakes, api.OK
}

// Capacity returns the greatest load that the motor drives at an even speed (P1.11).
func Capacity(e api.Escalator) (int, api.Errno) {
	if f := Check(e); f != api.OK {
		return 0, f
	}
	drives := func(load int) bool {
		if e.Up {
			return e.Pull*load+e.Drag <= e.Motor
		}
		return e.Pull*load-e.Drag <= e.Motor
	}
	if !drives(0) {
		return 0, api.ErrArg
	}
	// What is too heavy stays so with more of it: the search is for the first load above 0 that is.
	tooHeavy := func(less int) bool { return !drives(less + 1) }
	return sort.Search(api.MaxWeight, tooHeavy), api.OK
}
