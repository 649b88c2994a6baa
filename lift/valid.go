package lift

import (
	"slices"

	"newel/api"
)

// checked returns ErrLift unless a lift is valid, and only then looks at the rest: its floors tell which arguments are allowed.
func checked(l api.Lift, rest func() api.Errno) api.Errno {
	if !isLift(l) {
		return api.ErrLift
	}
	return rest()
}

// checkedDoor returns ErrDoor unless a door is valid; then fits says whether the other arguments are as told.
func checkedDoor(d api.Door, fits bool) api.Errno {
	if !within(d.Wide, 1, api.MaxWide) || !within(d.Wait, 0, api.MaxWait) {
		return api.ErrDoor
	}
	return fitting(fits)
}

func fitting(fits bool) api.Errno {
	if !fits {
		return api.ErrArg
	}
	return api.OK
}

func within(n, low, high int) bool { return low <= n && n <= high }

func every[T any](l []T, is func(x T) bool) bool {
	return !slices.ContainsFunc(l, func(x T) bool { return !is(x) })
}

func isLift(l api.Lift) bool {
	weights := within(l.Car, 1, api.MaxWeight) && within(l.Counter, 1, api.MaxWeight) &&
		within(l.Rated, 0, api.MaxWeight) && within(l.Rope, 0, api.MaxRate)
	grip := within(l.Num, 1, api.MaxRate) && within(l.Den, 1, l.Num)
	motion := within(l.Speed, 1, api.MaxRate) && within(l.Accel, 1, api.MaxRate)
	stretch := within(l.Over, 0, api.MaxHeight) && within(l.Stiff, 1, api.MaxStiff) && within(l.Level, 0, api.MaxHeight)
	return weights && areFloors(l.Floors) && grip && motion && stretch
}

func areFloors(floors []int) bool {
	return within(len(floors), 2, api.MaxFloors) && floors[0] == 0 && areAscending(floors, api.MaxHeight)
}

func areBreaks(breaks []int) bool {
	return len(breaks) <= api.MaxBreaks && areAscending(breaks, api.MaxTime)
}

// areAscending reports whether numbers are strictly ascending, from 0 to most.
func areAscending(numbers []int, most int) bool {
	least := 0
	for _, n := range numbers {
		if !within(n, least, most) {
			return false
		}
		least = n + 1
	}
	return true
}

// top returns the height of the highest floor.
func top(l api.Lift) int { return l.Floors[len(l.Floors)-1] }

func isFloor(l api.Lift, floor int) bool { return within(floor, 0, len(l.Floors)-1) }

func isHeight(l api.Lift, height int) bool { return within(height, 0, top(l)) }

func isLoad(l api.Lift, load int) bool { return within(load, 0, l.Rated) }

func areHeights(l api.Lift, s api.Span) bool {
	return s.Low <= s.High && isHeight(l, s.Low) && isHeight(l, s.High)
}

func areLoads(l api.Lift, s api.Span) bool {
	return s.Low <= s.High && isLoad(l, s.Low) && isLoad(l, s.High)
}
