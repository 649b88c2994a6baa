package calls_test

import (
	"math"
	"slices"
	"testing"

	"newel/api"
	"newel/calls"
)

// car is the car C of the chapter's examples, and slow is D.
func car() api.Car { return api.Car{High: 2, Move: 1, Stop: 1} }

func slow() api.Car { return api.Car{High: 2, Start: 2, Move: 2, Stop: 1} }

// changed returns the car of the examples as it is after a change.
func changed(change func(c *api.Car)) api.Car {
	c := car()
	change(&c)
	return c
}

// single is a car that serves one floor.
func single(floor int) api.Car {
	return api.Car{Low: floor, High: floor, Start: floor, Move: 1, Stop: 1}
}

// pressed are the presses of pairs of a floor and a tick.
func pressed(pairs ...int) []api.Press {
	var l []api.Press
	for i := 0; i < len(pairs); i += 2 {
		l = append(l, api.Press{Floor: pairs[i], At: pairs[i+1]})
	}
	return l
}

// example are the presses of the chapter's first example.
func example() []api.Press { return pressed(2, 0, 1, 0, 0, 1) }

// TestCheckCar is P7.1 for each number of a car: its least and greatest value, and what lies beyond them.
func TestCheckCar(t *testing.T) {
	for _, x := range []struct {
		name      string
		low, high int
		set       func(c *api.Car, n int)
	}{
		{"Low", 0, 3, func(c *api.Car, n int) { c.Low, c.Start, c.High = n, 3, 4 }},
		{"Start", 1, 4, func(c *api.Car, n int) { c.Low, c.Start, c.High = 1, n, 4 }},
		{"High", 3, 5, func(c *api.Car, n int) { c.Low, c.Start, c.High = 1, 3, n }},
		{"the only floor", 0, 5, func(c *api.Car, n int) { c.Low, c.Start, c.High = n, n, n }},
		{"Move", 1, 3, func(c *api.Car, n int) { c.Move = n }},
		{"Stop", 1, 4, func(c *api.Car, n int) { c.Stop = n }},
	} {
		for _, n := range []int{x.low, x.high} {
			if e := calls.Check(changed(func(c *api.Car) { x.set(c, n) }), nil); e != api.OK {
				t.Errorf("%s %d: %d", x.name, n, e)
			}
		}
		for _, n := range []int{math.MinInt, x.low - 1, x.high + 1, math.MaxInt} {
			if e := calls.Check(changed(func(c *api.Car) { x.set(c, n) }), nil); e != api.ErrCar {
				t.Errorf("%s %d: %d", x.name, n, e)
			}
		}
	}
}

// TestCheckPresses is P7.1 for presses.
func TestCheckPresses(t *testing.T) {
	middle := api.Car{Low: 1, High: 3, Start: 2, Move: 1, Stop: 1}
	for _, x := range []struct {
		c    api.Car
		l    []api.Press
		want api.Errno
	}{
		{car(), nil, api.OK},
		{car(), []api.Press{}, api.OK},
		{car(), example(), api.OK},
		{api.Car{}, nil, api.ErrCar},
		{api.Car{}, pressed(9, -1), api.ErrCar},
		{car(), pressed(0, 500), api.OK},
		{car(), pressed(0, 501), api.ErrPress},
		{car(), pressed(0, -1), api.ErrPress},
		{car(), pressed(0, math.MinInt), api.ErrPress},
		{car(), pressed(0, math.MaxInt), api.ErrPress},
		{car(), pressed(0, 7, 1, 7), api.OK},
		{car(), pressed(0, 7, 0, 7), api.OK},
		{car(), pressed(0, 7, 1, 6), api.ErrPress},
		{car(), pressed(0, 7, 1, 8, 1, 7), api.ErrPress},
		{car(), pressed(2, 0), api.OK},
		{car(), pressed(3, 0), api.ErrPress},
		{car(), pressed(-1, 0), api.ErrPress},
		{car(), pressed(math.MaxInt, 0), api.ErrPress},
		{car(), pressed(math.MinInt, 0), api.ErrPress},
		{middle, pressed(1, 0, 3, 0), api.OK},
		{middle, pressed(0, 0), api.ErrPress},
		{middle, pressed(4, 0), api.ErrPress},
		{middle, pressed(1, 0, 2, 0, 4, 1), api.ErrPress},
		{car(), slices.Repeat(pressed(1, 3), 200), api.OK},
		{car(), slices.Repeat(pressed(1, 3), 201), api.ErrPress},
	} {
		if e := calls.Check(x.c, x.l); e != x.want {
			t.Errorf("Check(%v, %v) = %d", x.c, x.l, e)
		}
	}
}

// rests, moves and stands are rides.
func rests(floor int, up, stood bool) api.Ride { return api.Ride{Floor: floor, Up: up, Stood: stood} }

func moves(floor int, up, stood bool, left, wants int) api.Ride {
	return api.Ride{Floor: floor, Up: up, Stood: stood, Doing: api.Moves, Left: left, Wants: wants}
}

func stands(floor int, up bool, left, wants int) api.Ride {
	return api.Ride{Floor: floor, Up: up, Stood: true, Doing: api.Stands, Left: left, Wants: wants}
}

// TestPlay is P7.2.
func TestPlay(t *testing.T) {
	long := api.Car{Low: 1, High: 3, Start: 2, Move: 3, Stop: 2}
	for _, x := range []struct {
		c    api.Car
		l    []api.Press
		want []api.Ride
	}{
		{car(), example(), []api.Ride{moves(0, true, false, 1, 6), stands(1, true, 1, 5), moves(1, true, true, 1, 5)}},
		{car(), nil, []api.Ride{rests(0, true, false), rests(0, true, false)}},
		{car(), pressed(0, 0), []api.Ride{stands(0, true, 1, 0), rests(0, true, true), rests(0, true, true)}},
		{car(), pressed(0, 1), []api.Ride{rests(0, true, false), stands(0, true, 1, 0), rests(0, true, true)}},
		{car(), pressed(0, 0, 0, 1), []api.Ride{stands(0, true, 1, 0), stands(0, true, 1, 0), rests(0, true, true)}},                                                                  // nothing else is wanted
		{car(), pressed(0, 0, 1, 0, 0, 1), []api.Ride{stands(0, true, 1, 2), moves(0, true, true, 1, 3), stands(1, true, 1, 1), moves(1, false, true, 1, 1), stands(0, false, 1, 0)}}, // it has stood
		{car(), pressed(0, 0, 1, 1), []api.Ride{stands(0, true, 1, 0), moves(0, true, true, 1, 2), stands(1, true, 1, 0), rests(1, true, true)}},
		{car(), pressed(1, 0, 1, 1), []api.Ride{moves(0, true, false, 1, 2), stands(1, true, 1, 0)}}, // pressed when it comes
		{car(), pressed(2, 0, 1, 1), []api.Ride{moves(0, true, false, 1, 4), stands(1, true, 1, 4), moves(1, true, true, 1, 4), stands(2, true, 1, 0)}},
		{car(), pressed(2, 0, 1, 2), []api.Ride{moves(0, true, false, 1, 4), moves(1, true, false, 1, 4), stands(2, true, 1, 2), moves(2, false, true, 1, 2), stands(1, false, 1, 0), rests(1, false, true)}},
		{slow(), pressed(2, 0, 1, 0, 0, 0), []api.Ride{stands(2, true, 1, 3), moves(2, false, true, 2, 3), moves(2, false, true, 1, 3), stands(1, false, 1, 1), moves(1, false, true, 2, 1)}},
		{slow(), pressed(0, 1), []api.Ride{rests(2, true, false), moves(2, false, false, 2, 1), moves(2, false, false, 1, 1), moves(1, false, false, 2, 1), moves(1, false, false, 1, 1), stands(0, false, 1, 0)}},
		{long, pressed(1, 0, 3, 0, 3, 6), []api.Ride{moves(2, true, false, 3, 10), moves(2, true, false, 2, 10), moves(2, true, false, 1, 10), stands(3, true, 2, 2), stands(3, true, 1, 2), moves(3, false, true, 3, 2), moves(3, false, true, 2, 10)}},
		{long, pressed(2, 0, 2, 1), []api.Ride{stands(2, true, 2, 0), stands(2, true, 1, 0), rests(2, true, true)}}, // served at once
		{long, pressed(2, 0, 2, 2), []api.Ride{stands(2, true, 2, 0), stands(2, true, 1, 0), stands(2, true, 2, 0)}},
		{long, pressed(2, 0, 2, 2, 1, 2), []api.Ride{stands(2, true, 2, 0), stands(2, true, 1, 0), moves(2, false, true, 3, 6)}},
		{single(5), pressed(5, 0, 5, 0, 5, 1), []api.Ride{stands(5, true, 1, 0), stands(5, true, 1, 0), rests(5, true, true)}},
	} {
		for ticks := range len(x.want) + 1 {
			got, e := calls.Play(x.c, x.l, ticks)
			if !slices.Equal(got, x.want[:ticks]) || e != api.OK {
				t.Errorf("Play(%v, %v, %d) = %v, %d", x.c, x.l, ticks, got, e)
			}
		}
	}
}

// TestPlayTicks is P7.2 for the number of ticks.
func TestPlayTicks(t *testing.T) {
	for _, x := range []struct {
		c     api.Car
		l     []api.Press
		ticks int
		want  api.Errno
	}{
		{car(), example(), 0, api.OK},
		{car(), example(), 1000, api.OK},
		{car(), example(), -1, api.ErrArg},
		{car(), example(), 1001, api.ErrArg},
		{car(), example(), math.MaxInt, api.ErrArg},
		{car(), example(), math.MinInt, api.ErrArg},
		{car(), pressed(3, 0), -1, api.ErrPress},
		{api.Car{}, pressed(3, 0), -1, api.ErrCar},
	} {
		got, e := calls.Play(x.c, x.l, x.ticks)
		if e != x.want || e == api.OK && len(got) != x.ticks || e != api.OK && len(got) > 0 {
			t.Errorf("Play(%v, %v, %d) = %v, %d", x.c, x.l, x.ticks, got, e)
		}
	}
	if got, _ := calls.Play(car(), example(), 1000); got[999] != rests(0, false, true) {
		t.Errorf("Play for 1000 ticks ends with %v", got[999])
	}
}

// TestWaits is P7.3.
func TestWaits(t *testing.T) {
	for _, x := range []struct {
		c    api.Car
		l    []api.Press
		want []int
		e    api.Errno
	}{
		{car(), example(), []int{3, 1, 5}, api.OK},
		{car(), nil, nil, api.OK},
		{car(), pressed(0, 0), []int{0}, api.OK},
		{car(), pressed(0, 0, 0, 0), []int{0, 0}, api.OK},
		{car(), pressed(1, 0, 1, 0, 1, 1), []int{1, 1, 0}, api.OK},
		{car(), pressed(0, 0, 1, 0, 0, 1), []int{0, 2, 3}, api.OK},
		{car(), pressed(2, 0, 2, 1, 2, 2, 2, 3), []int{2, 1, 0, 0}, api.OK}, // it rests at 3, and stands again
		{car(), pressed(2, 500), []int{2}, api.OK},
		{car(), pressed(2, 0, 0, 500, 2, 500), []int{2, 2, 5}, api.OK}, // it has stood at 2, and goes first to 0
		{slow(), pressed(2, 0, 1, 0), []int{0, 3}, api.OK},
		{slow(), pressed(0, 3, 2, 4, 1, 5), []int{5, 9, 0}, api.OK},
		{single(0), pressed(0, 0, 0, 1, 0, 500), []int{0, 0, 0}, api.OK},
		{car(), pressed(3, 0), nil, api.ErrPress},
		{car(), pressed(0, 1, 0, 0), nil, api.ErrPress},
		{api.Car{}, pressed(3, 0), nil, api.ErrCar},
	} {
		got, e := calls.Waits(x.c, x.l)
		if !slices.Equal(got, x.want) || e != x.e {
			t.Errorf("Waits(%v, %v) = %v, %d", x.c, x.l, got, e)
		}
	}
}
