package lift

import (
	"sort"

	"newel/api"
)

func distance(l api.Lift, from, to int) int {
	way := l.Floors[to] - l.Floors[from]
	return max(way, -way)
}

// reach returns how far a trip leads that is as fast in each tick as the ticks from its beginning and to its end allow.
func reach(l api.Lift, ticks int) int {
	way := 0
	for tick := range ticks {
		way += min(l.Speed, l.Accel*min(tick+1, ticks-tick))
	}
	return way
}

// fewest returns in how many ticks a car can go a way: all ways up to the greatest one can be gone, so that this one alone matters.
func fewest(l api.Lift, way int) int {
	// Each tick leads at least 1 farther, so that no trip between floors needs more than MaxHeight of them.
	return sort.Search(api.MaxHeight, func(ticks int) bool { return reach(l, ticks) >= way })
}

// trip returns the trip with the fewest ticks: each speed is the greatest one with which the car can still stop within the way that is left,
// and in time. Nothing of the way is left over, since there is a trip of so many ticks, and a greater speed never leads less far.
func trip(l api.Lift, way int) []int {
	var speeds []int
	speed := 0
	for left := fewest(l, way); left > 0; left-- {
		speed = min(speed+l.Accel, l.Speed, l.Accel*left)
		for stopping(l, speed) > way {
			speed--
		}
		speeds = append(speeds, speed)
		way -= speed
	}
	return speeds
}

// stopping returns the least way of a trip from a tick with this speed to its end.
func stopping(l api.Lift, speed int) int {
	way := 0
	for ; speed > 0; speed -= l.Accel {
		way += speed
	}
	return way
}
