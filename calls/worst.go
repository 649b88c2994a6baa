package calls

import "newel/api"

// longestWay returns in how many ticks a car goes so many floors far at the most: it is wanted at each floor on its way.
func longestWay(c api.Car, floors int) int {
	return floors*c.Move + (floors-1)*c.Stop
}

func apart(a, b int) int { return max(a-b, b-a) }

// farthest returns the farther one of the first and the last floor.
func farthest(c api.Car, floor int) int {
	if floor-c.Low > c.High-floor {
		return c.Low
	}
	return c.High
}

// worst returns the longest wait at a floor: the car has just left it, and goes to the farthest floor and back.
func worst(c api.Car, floor int) int {
	floors := apart(floor, farthest(c, floor))
	if floors == 0 {
		return 0
	}
	return longestWay(c, 2*floors)
}

// witness returns presses with the longest wait at a floor: the car is called to the floor, and leaves it when it is pressed again; each
// floor from there to the farthest one is pressed for the way there, and again, when the car leaves it, for the way back.
func witness(c api.Car, floor int) []api.Press {
	end := farthest(c, floor)
	leaves := apart(c.Start, floor)*c.Move + c.Stop
	l := []api.Press{{At: 0, Floor: floor}, {At: leaves, Floor: floor}}
	way := between(floor, end)
	for _, on := range way {
		l = append(l, api.Press{At: leaves, Floor: on})
	}
	for _, on := range way {
		leaves += c.Move + c.Stop
		if on != end {
			l = append(l, api.Press{At: leaves, Floor: on})
		}
	}
	return l
}

// between returns the floors behind one up to another one, in this order.
func between(from, to int) []int {
	var list []int
	r := api.Ride{Floor: from, Up: from < to}
	for r.Floor != to {
		r.Floor = next(r)
		list = append(list, r.Floor)
	}
	return list
}

// bound returns in how many ticks a floor that is wanted is served at the most. What is ahead the car meets on its way; for what is not it
// can be called to its last floor first, and turns there only.
func bound(c api.Car, r api.Ride, floor int) int {
	floors := apart(r.Floor, floor)
	if ahead := r.Up && floor > r.Floor || !r.Up && floor < r.Floor; !ahead {
		end := c.Low
		if r.Up {
			end = c.High
		}
		floors = apart(r.Floor, end) + apart(end, floor)
	}
	ticks := r.Left + longestWay(c, floors)
	if r.Doing == api.Moves {
		ticks -= c.Move // of the first floor only Left is left
	}
	return ticks
}
