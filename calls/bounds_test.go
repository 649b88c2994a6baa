package calls_test

import (
	"math"
	"testing"

	"newel/api"
	"newel/calls"
)

// TestWorst is P7.4.
func TestWorst(t *testing.T) {
	for _, x := range []struct {
		c           api.Car
		floor, want int
		e           api.Errno
	}{
		{car(), 0, 7, api.OK},
		{car(), 1, 3, api.OK},
		{car(), 2, 7, api.OK},
		{slow(), 0, 11, api.OK},
		{slow(), 1, 5, api.OK},
		{single(0), 0, 0, api.OK},
		{single(5), 5, 0, api.OK},
		{api.Car{Low: 4, High: 5, Start: 4, Move: 3, Stop: 4}, 4, 10, api.OK},
		{api.Car{Low: 4, High: 5, Start: 4, Move: 3, Stop: 4}, 5, 10, api.OK},
		{api.Car{High: 5, Move: 3, Stop: 4}, 0, 66, api.OK},
		{api.Car{High: 5, Move: 3, Stop: 4}, 1, 52, api.OK},
		{api.Car{High: 5, Move: 3, Stop: 4}, 2, 38, api.OK},
		{api.Car{High: 5, Move: 3, Stop: 4}, 3, 38, api.OK},
		{api.Car{Low: 1, High: 4, Start: 3, Move: 2, Stop: 3}, 1, 27, api.OK},
		{api.Car{Low: 1, High: 4, Start: 3, Move: 2, Stop: 3}, 2, 17, api.OK},
		{car(), -1, 0, api.ErrArg},
		{car(), 3, 0, api.ErrArg},
		{car(), math.MaxInt, 0, api.ErrArg},
		{car(), math.MinInt, 0, api.ErrArg},
		{single(5), 4, 0, api.ErrArg},
		{api.Car{Low: 1, High: 4, Start: 3, Move: 2, Stop: 3}, 0, 0, api.ErrArg},
		{api.Car{}, 0, 0, api.ErrCar},
		{api.Car{}, 9, 0, api.ErrCar},
	} {
		if got, e := calls.Worst(x.c, x.floor); got != x.want || e != x.e {
			t.Errorf("Worst(%v, %d) = %d, %d", x.c, x.floor, got, e)
		}
		if l, e := calls.Witness(x.c, x.floor); e != x.e || e != api.OK && len(l) > 0 {
			t.Errorf("Witness(%v, %d) = %v, %d", x.c, x.floor, l, e)
		}
	}
}

// TestWitness is P7.5 and P7.10 for each floor of each car.
func TestWitness(t *testing.T) {
	for _, c := range allCars(api.MaxFloor) {
		for floor := c.Low; floor <= c.High; floor++ {
			worst, e := calls.Worst(c, floor)
			l, f := calls.Witness(c, floor)
			waits, g := calls.Waits(c, l)
			if e != api.OK || f != api.OK || g != api.OK {
				t.Fatalf("Worst, Witness and Waits of %v at %d: %d, %d, %d", c, floor, e, f, g)
			}
			if longest := longestAt(l, waits, floor); longest != worst {
				t.Fatalf("Witness(%v, %d) = %v: %v, but Worst is %d", c, floor, l, waits, worst)
			}
		}
	}
}

// longestAt returns the longest wait at a floor; -1 if it is not pressed.
func longestAt(l []api.Press, waits []int, floor int) int {
	longest := -1
	for number, p := range l {
		if p.Floor == floor {
			longest = max(longest, waits[number])
		}
	}
	return longest
}

// allCars returns all valid cars with floors up to a highest one.
func allCars(highest int) []api.Car {
	var l []api.Car
	for low := range highest + 1 {
		for high := low; high <= highest; high++ {
			for start := low; start <= high; start++ {
				for move := 1; move <= api.MaxMove; move++ {
					for stop := 1; stop <= api.MaxStop; stop++ {
						l = append(l, api.Car{Low: low, High: high, Start: start, Move: move, Stop: stop})
					}
				}
			}
		}
	}
	return l
}

// TestBound is P7.6.
func TestBound(t *testing.T) {
	big := api.Car{Low: 1, High: 4, Start: 1, Move: 2, Stop: 3}
	for _, x := range []struct {
		c           api.Car
		r           api.Ride
		floor, want int
	}{
		{car(), moves(0, true, false, 1, 6), 2, 3},
		{car(), moves(0, true, false, 1, 6), 1, 1},
		{car(), moves(0, true, true, 1, 7), 0, 7},
		{car(), stands(1, true, 1, 5), 2, 2},
		{car(), stands(1, true, 1, 5), 0, 6}, // over the floor 2
		{car(), stands(1, false, 1, 5), 2, 6},
		{car(), stands(2, true, 1, 1), 0, 4},
		{big, moves(2, true, true, 2, 0b10110), 4, 7},
		{big, moves(2, true, true, 1, 0b10110), 4, 6},
		{big, moves(2, true, true, 2, 0b10110), 2, 17}, // from which it goes
		{big, moves(2, true, false, 2, 0b10110), 1, 22},
		{big, moves(3, false, true, 2, 0b00110), 1, 7},
		{big, moves(2, false, true, 2, 0b00010), 1, 2},
		{big, stands(2, true, 3, 0b10000), 4, 10},
		{big, stands(2, true, 1, 0b10000), 4, 8},
		{big, stands(2, true, 3, 0b00010), 1, 3 + 22}, // it can still be called to 4
		{big, stands(2, false, 3, 0b00010), 1, 5},
		{big, stands(4, true, 3, 0b00010), 1, 15},
		{big, stands(1, false, 3, 0b10000), 4, 15},
	} {
		if got, e := calls.Bound(x.c, x.r, x.floor); got != x.want || e != api.OK {
			t.Errorf("Bound(%v, %v, %d) = %d, %d", x.c, x.r, x.floor, got, e)
		}
	}
}

// TestRightRides is P7.6 for rides, floors and cars that are not allowed.
func TestRightRides(t *testing.T) {
	c := api.Car{Low: 1, High: 3, Start: 1, Move: 2, Stop: 3}
	ride := func(r api.Ride, change func(r *api.Ride)) api.Ride {
		change(&r)
		return r
	}
	moving, standing := moves(2, true, true, 2, 0b1010), stands(2, true, 3, 0b1010)
	for number, x := range []struct {
		r     api.Ride
		floor int
		want  api.Errno
	}{
		{moving, 1, api.OK},
		{moving, 3, api.OK},
		{moving, 2, api.ErrArg}, // not wanted
		{moving, 0, api.ErrArg},
		{moving, 4, api.ErrArg},
		{moving, math.MaxInt, api.ErrArg},
		{moving, math.MinInt, api.ErrArg},
		{moves(2, true, true, 2, 0b1110), 2, api.OK},
		{moves(2, true, false, 2, 0b1110), 2, api.OK},
		{moves(2, true, true, 1, 0b1010), 1, api.OK},
		{moves(2, true, true, 0, 0b1010), 1, api.ErrArg},
		{moves(2, true, true, 3, 0b1010), 1, api.ErrArg},
		{moves(2, true, true, -1, 0b1010), 1, api.ErrArg},
		{moves(2, true, true, 2, 0b1000), 3, api.OK},
		{moves(2, true, true, 2, 0b0110), 1, api.ErrArg}, // nothing is wanted above
		{moves(2, false, true, 2, 0b1100), 3, api.ErrArg},
		{moves(2, false, true, 2, 0b0010), 1, api.OK},
		{moves(3, true, true, 2, 0b1010), 1, api.ErrArg},
		{moves(1, false, true, 2, 0b1010), 3, api.ErrArg},
		{moves(2, true, true, 2, 0b11010), 1, api.ErrArg},
		{moves(2, true, true, 2, 0b1011), 1, api.ErrArg},
		{moves(2, true, true, 2, -1), 1, api.ErrArg},
		{moves(2, true, true, 2, math.MinInt|0b1010), 1, api.ErrArg},
		{moves(0, true, true, 2, 0b1010), 1, api.ErrArg},
		{moves(4, false, true, 2, 0b1010), 1, api.ErrArg},
		{moves(-1, true, true, 2, 0b1010), 1, api.ErrArg},
		{moves(math.MinInt, true, true, 2, 0b1010), 1, api.ErrArg},
		{moves(math.MaxInt, false, true, 2, 0b1010), 1, api.ErrArg},
		{standing, 1, api.OK},
		{standing, 3, api.OK},
		{standing, 2, api.ErrArg},
		{stands(2, true, 1, 0b1010), 1, api.OK},
		{stands(2, true, 0, 0b1010), 1, api.ErrArg},
		{stands(2, true, 4, 0b1010), 1, api.ErrArg},
		{stands(2, true, -1, 0b1010), 1, api.ErrArg},
		{stands(2, true, 3, 0b1110), 1, api.ErrArg}, // where it stands
		{stands(2, true, 3, 0), 1, api.ErrArg},
		{stands(2, true, 3, 0b11010), 1, api.ErrArg},
		{stands(4, true, 3, 0b1010), 1, api.ErrArg},
		{stands(0, true, 3, 0b1010), 1, api.ErrArg},
		{ride(standing, func(r *api.Ride) { r.Stood = false }), 1, api.ErrArg},
		{rests(2, true, true), 1, api.ErrArg},
		{rests(2, true, true), 2, api.ErrArg},
		{ride(rests(2, true, true), func(r *api.Ride) { r.Wants = 0b0010 }), 1, api.ErrArg},
		{ride(rests(2, true, false), func(r *api.Ride) { r.Wants = 0b1110 }), 2, api.ErrArg},
		{ride(rests(2, true, false), func(r *api.Ride) { r.Wants, r.Left = 0b0010, 1 }), 1, api.ErrArg},
		{ride(moving, func(r *api.Ride) { r.Doing = 3 }), 1, api.ErrArg},
		{ride(standing, func(r *api.Ride) { r.Doing = 3 }), 1, api.ErrArg},
		{ride(moving, func(r *api.Ride) { r.Doing = -1 }), 1, api.ErrArg},
	} {
		got, e := calls.Bound(c, x.r, x.floor)
		if e != x.want || e != api.OK && got != 0 {
			t.Errorf("%d: Bound(%v, %v, %d) = %d, %d", number, c, x.r, x.floor, got, e)
		}
		if got, e := calls.Bound(api.Car{}, x.r, x.floor); got != 0 || e != api.ErrCar {
			t.Errorf("%d: Bound of no car = %d, %d", number, got, e)
		}
	}
}
