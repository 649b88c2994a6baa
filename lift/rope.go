package lift

import "newel/api"

// sides returns what hangs on the pulley on the side of the car, and on that of the counterweight.
func sides(l api.Lift, height, load int) (car, counter int) {
	return l.Car + load + l.Rope*(top(l)-height), l.Counter + l.Rope*height
}

func slips(l api.Lift, height, load, accel int) bool {
	car, counter := sides(l, height, load)
	heavier, lighter := max(car, counter), min(car, counter)
	return heavier*(api.Gravity+accel)*l.Den > lighter*(api.Gravity-accel)*l.Num
}

// slipsSomewhere reports whether the rope slips at one of the heights with one of the loads. The side of the car outweighs the other one
// the most at the lowest height with the greatest load, and the other way round: if the rope does not slip at these two, it does nowhere.
func slipsSomewhere(l api.Lift, heights, loads api.Span, accel int) bool {
	return slips(l, heights.Low, loads.High, accel) || slips(l, heights.High, loads.Low, accel)
}

// balance returns the best counterweight and the greatest difference with it. The car's side is the heaviest one against the other at the
// floor 0 with the greatest load, the lightest one at the top with the least load: the best counterweight is in the middle of both, or the
// last one below it. So it is never outweighed by less than it outweighs, and the floor 0 alone tells the greatest difference.
func balance(l api.Lift, loads api.Span) (counter, worst int) {
	l.Counter = min(l.Car+(loads.Low+loads.High)/2, api.MaxWeight)
	car, other := sides(l, 0, loads.High)
	return l.Counter, car - other
}

// sink returns by how much a car sinks with the rope above it; a quotient of Go is rounded towards 0 already.
func sink(l api.Lift, floor, from, to int) int {
	length := l.Over + top(l) - l.Floors[floor]
	return (to - from) * length / l.Stiff
}

func levels(l api.Lift, floor int, loads []int) (off, again []int) {
	level := loads[0]
	for number, load := range loads {
		by := sink(l, floor, level, load)
		if !within(by, -l.Level, l.Level) {
			by, level = 0, load
			again = append(again, number)
		}
		off = append(off, by)
	}
	return off, again
}
