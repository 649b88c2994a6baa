package calls

import (
	"slices"

	"newel/api"
)

// maxShared is the greatest number of presses that Share looks at; package api has no name for it.
const maxShared = 6

func within(n, low, high int) bool { return low <= n && n <= high }

// isFloor reports whether a car serves a floor.
func isFloor(c api.Car, floor int) bool { return within(floor, c.Low, c.High) }

func isCar(c api.Car) bool {
	floors := 0 <= c.Low && c.Low <= c.Start && c.Start <= c.High && c.High <= api.MaxFloor
	return floors && within(c.Move, 1, api.MaxMove) && within(c.Stop, 1, api.MaxStop)
}

// checkedCar returns ErrCar unless a car is valid, then ErrArg unless it serves the floor.
func checkedCar(c api.Car, floor int) api.Errno {
	if !isCar(c) {
		return api.ErrCar
	}
	if !isFloor(c, floor) {
		return api.ErrArg
	}
	return api.OK
}

// checkedGroup returns ErrCar unless cars are a group.
func checkedGroup(g []api.Car) api.Errno {
	if !within(len(g), 1, api.MaxCars) || !all(g, isCar) {
		return api.ErrCar
	}
	return api.OK
}

// checkedPresses returns ErrCar unless cars are a group, then ErrPress unless the presses are valid for it.
func checkedPresses(g []api.Car, l []api.Press) api.Errno {
	if e := checkedGroup(g); e != api.OK {
		return e
	}
	if !arePresses(g, l) {
		return api.ErrPress
	}
	return api.OK
}

func arePresses(g []api.Car, l []api.Press) bool {
	least := 0
	for _, p := range l {
		serves := func(c api.Car) bool { return isFloor(c, p.Floor) }
		if !within(p.At, least, api.MaxPressed) || !slices.ContainsFunc(g, serves) {
			return false
		}
		least = p.At
	}
	return len(l) <= api.MaxPresses
}

// isShare reports whether each press is given to a car that serves its floor.
func isShare(g []api.Car, l []api.Press, share []int) bool {
	if len(share) != len(l) {
		return false
	}
	for number, car := range share {
		if !within(car, 0, len(g)-1) || !isFloor(g[car], l[number].Floor) {
			return false
		}
	}
	return true
}

// isRide reports whether a valid car can stand so, as far as it can be seen.
func isRide(c api.Car, r api.Ride) bool {
	served := 1<<(c.High+1) - 1<<c.Low
	if !isFloor(c, r.Floor) || r.Wants&^served != 0 {
		return false
	}
	switch r.Doing {
	case api.Rests:
		return r.Left == 0 && r.Wants == 0
	case api.Moves:
		return within(r.Left, 1, c.Move) && wantsAhead(r)
	case api.Stands:
		return within(r.Left, 1, c.Stop) && r.Stood && !wants(r, r.Floor)
	}
	return false
}

// all reports whether something is so for each element of a list.
func all[T any](list []T, is func(T) bool) bool {
	return !slices.ContainsFunc(list, func(x T) bool { return !is(x) })
}
