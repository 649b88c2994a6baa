package calls

import (
	"iter"
	"math"
	"slices"

	"newel/api"
)

// longest returns the longest wait of presses that are shared among a group.
func longest(g []api.Car, l []api.Press, share []int) int {
	given := make([][]api.Press, len(g))
	for number, car := range share {
		given[car] = append(given[car], l[number])
	}
	wait := 0
	for car, own := range given {
		wait = slices.Max(append(waits(g[car], own), wait))
	}
	return wait
}

// share returns the share whose longest wait is least. Of those that are equal the first one stays.
func share(g []api.Car, l []api.Press) []int {
	var best []int
	least := math.MaxInt
	for share := range shares(g, l) {
		if wait := longest(g, l, share); wait < least {
			best, least = share, wait
		}
	}
	return best
}

// shares yields all shares of presses among a group, those with lower numbers first.
func shares(g []api.Car, l []api.Press) iter.Seq[[]int] {
	return func(yield func([]int) bool) {
		share := make([]int, len(l))
		var give func(number int) bool
		give = func(number int) bool {
			if number == len(l) {
				return yield(slices.Clone(share))
			}
			for car, c := range g {
				if !isFloor(c, l[number].Floor) {
					continue
				}
				share[number] = car
				if !give(number + 1) {
					return false
				}
			}
			return true
		}
		give(0)
	}
}

// divide returns the division whose greatest wait is least, and this wait. Of those that are equal the first one stays.
func divide(g []api.Car, floors int) (highs []int, least int) {
	least = math.MaxInt
	for division := range divisions(len(g), floors) {
		if wait := worstOf(g, division); wait < least {
			highs, least = division, wait
		}
	}
	return highs, least
}

// divisions yields all divisions of floors among so many cars, those with lower numbers first.
func divisions(cars, floors int) iter.Seq[[]int] {
	return func(yield func([]int) bool) {
		highs := make([]int, cars)
		var place func(car, low int) bool
		place = func(car, low int) bool {
			later := cars - 1 - car
			if later == 0 {
				highs[car] = floors - 1
				return yield(slices.Clone(highs))
			}
			for high := low; high < floors-later; high++ { // each later car has a floor left
				highs[car] = high
				if !place(car+1, high+1) {
					return false
				}
			}
			return true
		}
		place(0, 0)
	}
}

// worstOf returns the greatest one of the longest waits at all floors, each served by the car of a division.
func worstOf(g []api.Car, highs []int) int {
	wait, low := 0, 0
	for car, high := range highs {
		c := g[car]
		c.Low, c.High, c.Start = low, high, low
		for floor := low; floor <= high; floor++ {
			wait = max(wait, worst(c, floor))
		}
		low = high + 1
	}
	return wait
}
