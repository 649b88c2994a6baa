package lift_test

import (
	"math"
	"slices"
	"testing"

	"newel/api"
	"newel/lift"
)

// l is the lift of the chapter's examples.
func l() api.Lift {
	return api.Lift{Car: 1000, Counter: 1400, Rated: 800, Rope: 2, Floors: []int{0, 40, 90},
		Num: 3, Den: 2, Speed: 10, Accel: 3, Over: 10, Stiff: 1000, Level: 20}
}

// with returns the lift of the examples as it is after a change.
func with(change func(l *api.Lift)) api.Lift {
	x := l()
	change(&x)
	return x
}

func span(low, high int) api.Span { return api.Span{Low: low, High: high} }

// TestCheckNumbers is P5.1 for each number of a lift: its least and greatest value, and what lies beyond them.
func TestCheckNumbers(t *testing.T) {
	for _, c := range []struct {
		name      string
		low, high int
		set       func(l *api.Lift, n int)
	}{
		{"Car", 1, 100000, func(l *api.Lift, n int) { l.Car = n }},
		{"Counter", 1, 100000, func(l *api.Lift, n int) { l.Counter = n }},
		{"Rated", 0, 100000, func(l *api.Lift, n int) { l.Rated = n }},
		{"Rope", 0, 100, func(l *api.Lift, n int) { l.Rope = n }},
		{"Num", 2, 100, func(l *api.Lift, n int) { l.Num = n }},
		{"Den", 1, 3, func(l *api.Lift, n int) { l.Den = n }},
		{"Speed", 1, 100, func(l *api.Lift, n int) { l.Speed = n }},
		{"Accel", 1, 100, func(l *api.Lift, n int) { l.Accel = n }},
		{"Over", 0, 1000, func(l *api.Lift, n int) { l.Over = n }},
		{"Stiff", 1, 10000000, func(l *api.Lift, n int) { l.Stiff = n }},
		{"Level", 0, 1000, func(l *api.Lift, n int) { l.Level = n }},
		{"the first floor", 0, 0, func(l *api.Lift, n int) { l.Floors[0] = n }},
		{"the second floor", 1, 89, func(l *api.Lift, n int) { l.Floors[1] = n }},
		{"the last floor", 41, 1000, func(l *api.Lift, n int) { l.Floors[2] = n }},
	} {
		for _, n := range []int{c.low, c.high} {
			if e := lift.Check(with(func(l *api.Lift) { c.set(l, n) })); e != api.OK {
				t.Errorf("%s %d: %d", c.name, n, e)
			}
		}
		for _, n := range []int{math.MinInt, c.low - 1, c.high + 1, math.MaxInt} {
			if e := lift.Check(with(func(l *api.Lift) { c.set(l, n) })); e != api.ErrLift {
				t.Errorf("%s %d: %d", c.name, n, e)
			}
		}
	}
	if e := lift.Check(with(func(l *api.Lift) { l.Num, l.Den = 100, 101 })); e != api.ErrLift {
		t.Errorf("Den 101: %d", e)
	}
	if e := lift.Check(with(func(l *api.Lift) { l.Num, l.Den = 100, 100 })); e != api.OK {
		t.Errorf("Num and Den 100: %d", e)
	}
}

// TestCheckFloors is P5.1 for lists of floors.
func TestCheckFloors(t *testing.T) {
	upTo := func(n int) []int {
		var floors []int
		for i := range n {
			floors = append(floors, i)
		}
		return floors
	}
	for _, c := range []struct {
		floors []int
		want   api.Errno
	}{
		{nil, api.ErrLift},
		{[]int{}, api.ErrLift},
		{[]int{0}, api.ErrLift},
		{[]int{0, 1}, api.OK},
		{[]int{0, 1000}, api.OK},
		{[]int{0, 1001}, api.ErrLift},
		{[]int{0, 0}, api.ErrLift},
		{[]int{1, 2}, api.ErrLift},
		{[]int{-1, 2}, api.ErrLift},
		{[]int{0, 5, 5}, api.ErrLift},
		{[]int{0, 6, 5}, api.ErrLift},
		{[]int{0, -1, 5}, api.ErrLift},
		{[]int{0, 999, 1000, 1001}, api.ErrLift},
		{upTo(16), api.OK},
		{upTo(17), api.ErrLift},
	} {
		if e := lift.Check(with(func(l *api.Lift) { l.Floors = c.floors })); e != c.want {
			t.Errorf("Check with the floors %v: %d", c.floors, e)
		}
	}
	if e := lift.Check(api.Lift{}); e != api.ErrLift {
		t.Errorf("Check of no lift: %d", e)
	}
}

// TestSides is P5.2.
func TestSides(t *testing.T) {
	for _, c := range []struct {
		height, load, car, counter int
		e                          api.Errno
	}{
		{40, 300, 1400, 1480, api.OK},
		{0, 0, 1180, 1400, api.OK},
		{0, 800, 1980, 1400, api.OK},
		{90, 0, 1000, 1580, api.OK},
		{41, 300, 1398, 1482, api.OK}, // between floors
		{-1, 300, 0, 0, api.ErrArg},
		{91, 300, 0, 0, api.ErrArg},
		{40, -1, 0, 0, api.ErrArg},
		{40, 801, 0, 0, api.ErrArg},
	} {
		car, counter, e := lift.Sides(l(), c.height, c.load)
		if car != c.car || counter != c.counter || e != c.e {
			t.Errorf("Sides at %d with %d = %d, %d, %d", c.height, c.load, car, counter, e)
		}
	}
}

// TestSlips is P5.3.
func TestSlips(t *testing.T) {
	even := with(func(l *api.Lift) { l.Counter, l.Rope, l.Num, l.Den = 1000, 0, 1, 1 })
	for _, c := range []struct {
		l                   api.Lift
		height, load, accel int
		is                  bool
		e                   api.Errno
	}{
		{l(), 0, 600, 82, false, api.OK},
		{l(), 0, 600, 83, true, api.OK},
		{l(), 90, 0, 0, true, api.OK},
		{l(), 90, 0, 999, true, api.OK},
		{l(), 0, 600, -1, false, api.ErrArg},
		{l(), 0, 600, 1000, false, api.ErrArg},
		{l(), 91, 600, 83, false, api.ErrArg},
		{l(), -1, 600, 83, false, api.ErrArg},
		{l(), 0, 801, 83, false, api.ErrArg},
		{l(), 0, -1, 83, false, api.ErrArg},
		{even, 0, 0, 0, false, api.OK}, // just as much as the rope holds is not more
		{even, 0, 0, 1, true, api.OK},
		{even, 0, 1, 0, true, api.OK},
		{with(func(l *api.Lift) { l.Car, l.Counter, l.Rope = 1000, 1500, 0 }), 90, 0, 0, false, api.OK},
		{with(func(l *api.Lift) { l.Car, l.Counter, l.Rope = 1000, 1501, 0 }), 90, 0, 0, true, api.OK},
	} {
		is, e := lift.Slips(c.l, c.height, c.load, c.accel)
		if is != c.is || e != c.e {
			t.Errorf("Slips of %v at %d with %d and %d = %v, %d", c.l, c.height, c.load, c.accel, is, e)
		}
	}
}

// TestGrip is P5.4.
func TestGrip(t *testing.T) {
	even := with(func(l *api.Lift) { l.Counter, l.Rope, l.Num, l.Den = 1000, 0, 1, 1 })
	sure := with(func(l *api.Lift) { l.Counter, l.Rope, l.Num, l.Den = 1000, 0, 100, 1 })
	for _, c := range []struct {
		l              api.Lift
		heights, loads api.Span
		want           int
		e              api.Errno
	}{
		{l(), span(0, 40), span(300, 600), 82, api.OK},
		{l(), span(0, 90), span(0, 800), 0, api.ErrNone},
		{l(), span(90, 90), span(0, 0), 0, api.ErrNone},
		{even, span(0, 90), span(0, 0), 0, api.OK},
		{even, span(0, 90), span(0, 1), 0, api.ErrNone},
		{sure, span(0, 90), span(0, 0), 980, api.OK},
		{l(), span(40, 0), span(300, 600), 0, api.ErrArg},
		{l(), span(-1, 40), span(300, 600), 0, api.ErrArg},
		{l(), span(0, 91), span(300, 600), 0, api.ErrArg},
		{l(), span(0, 40), span(600, 300), 0, api.ErrArg},
		{l(), span(0, 40), span(-1, 600), 0, api.ErrArg},
		{l(), span(0, 40), span(300, 801), 0, api.ErrArg},
	} {
		got, e := lift.Grip(c.l, c.heights, c.loads)
		if got != c.want || e != c.e {
			t.Errorf("Grip of %v at %v with %v = %d, %d", c.l, c.heights, c.loads, got, e)
		}
	}
}

// TestBalance is P5.5.
func TestBalance(t *testing.T) {
	heavy := with(func(l *api.Lift) { l.Car, l.Rated = 100000, 100000 })
	for _, c := range []struct {
		l              api.Lift
		loads          api.Span
		counter, worst int
		e              api.Errno
	}{
		{l(), span(0, 800), 1400, 580, api.OK},
		{l(), span(400, 400), 1400, 180, api.OK},
		{l(), span(0, 799), 1399, 580, api.OK}, // the lower one of two
		{l(), span(1, 800), 1400, 580, api.OK},
		{with(func(l *api.Lift) { l.Counter = 1 }), span(0, 800), 1400, 580, api.OK}, // its own counterweight does not matter
		{with(func(l *api.Lift) { l.Counter = 0 }), span(0, 800), 0, 0, api.ErrLift},
		{with(func(l *api.Lift) { l.Car = 1 }), span(0, 0), 1, 180, api.OK},
		{with(func(l *api.Lift) { l.Car = 1 }), span(0, 1), 1, 181, api.OK},
		{heavy, span(0, 0), 100000, 180, api.OK},
		{heavy, span(0, 100000), 100000, 100180, api.OK}, // a better one would be heavier than there is
		{heavy, span(100000, 100000), 100000, 100180, api.OK},
		{with(func(l *api.Lift) { l.Rope = 0 }), span(5, 5), 1005, 0, api.OK},
		{l(), span(1, 0), 0, 0, api.ErrArg},
		{l(), span(-1, 0), 0, 0, api.ErrArg},
		{l(), span(0, 801), 0, 0, api.ErrArg},
	} {
		counter, worst, e := lift.Balance(c.l, c.loads)
		if counter != c.counter || worst != c.worst || e != c.e {
			t.Errorf("Balance of %v with %v = %d, %d, %d", c.l, c.loads, counter, worst, e)
		}
	}
}

// TestSink is P5.6.
func TestSink(t *testing.T) {
	stiff := with(func(l *api.Lift) { l.Stiff = 1001 })
	for _, c := range []struct {
		l               api.Lift
		floor, from, to int
		want            int
		e               api.Errno
	}{
		{l(), 0, 0, 300, 30, api.OK},
		{l(), 2, 300, 0, -3, api.OK},
		{l(), 1, 0, 100, 6, api.OK},
		{l(), 0, 300, 300, 0, api.OK},
		{l(), 2, 0, 199, 1, api.OK}, // 1.99
		{l(), 2, 199, 0, -1, api.OK},
		{l(), 2, 99, 0, 0, api.OK},
		{stiff, 0, 0, 10, 0, api.OK},
		{stiff, 0, 10, 0, 0, api.OK},
		{with(func(l *api.Lift) { l.Over = 0 }), 2, 0, 800, 0, api.OK}, // no rope is above the top
		{l(), -1, 0, 300, 0, api.ErrArg},
		{l(), 3, 0, 300, 0, api.ErrArg},
		{l(), 0, -1, 300, 0, api.ErrArg},
		{l(), 0, 801, 300, 0, api.ErrArg},
		{l(), 0, 0, -1, 0, api.ErrArg},
		{l(), 0, 0, 801, 0, api.ErrArg},
	} {
		got, e := lift.Sink(c.l, c.floor, c.from, c.to)
		if got != c.want || e != c.e {
			t.Errorf("Sink of %v at %d from %d to %d = %d, %d", c.l, c.floor, c.from, c.to, got, e)
		}
	}
}

// TestLevels is P5.7.
func TestLevels(t *testing.T) {
	for _, c := range []struct {
		level, floor int
		loads        []int
		off, again   []int
		e            api.Errno
	}{
		{20, 0, []int{0, 100, 300, 250}, []int{0, 10, 0, -5}, []int{2}, api.OK},
		{20, 0, []int{800}, []int{0}, nil, api.OK},
		{20, 0, []int{0, 200, 209, 210}, []int{0, 20, 20, 0}, []int{3}, api.OK},            // just Level is near enough
		{20, 0, []int{300, 100, 91, 90}, []int{0, -20, -20, 0}, []int{3}, api.OK},          // upwards, too
		{20, 0, []int{0, 100, 200, 300, 400}, []int{0, 10, 20, 0, 10}, []int{3}, api.OK},   // from the load with which it stood level last
		{0, 0, []int{0, 9, 10, 10, 19, 0}, []int{0, 0, 0, 0, 0, 0}, []int{2, 5}, api.OK},   // less than 1 is not off
		{20, 2, []int{0, 800, 0, 800, 0}, []int{0, 8, 0, 8, 0}, nil, api.OK},               // at the top
		{20, 0, []int{0, 800, 0, 800, 0}, []int{0, 0, 0, 0, 0}, []int{1, 2, 3, 4}, api.OK}, // each time
		{1000, 0, []int{0, 800, 0, 800, 0}, []int{0, 80, 0, 80, 0}, nil, api.OK},           // never
		{20, 0, slices.Repeat([]int{7}, 60), make([]int, 60), nil, api.OK},
		{20, 0, slices.Repeat([]int{7}, 61), nil, nil, api.ErrArg},
		{20, 0, nil, nil, nil, api.ErrArg},
		{20, 0, []int{}, nil, nil, api.ErrArg},
		{20, 0, []int{-1, 0}, nil, nil, api.ErrArg},
		{20, 0, []int{0, 801}, nil, nil, api.ErrArg},
		{20, 3, []int{0}, nil, nil, api.ErrArg},
		{20, -1, []int{0}, nil, nil, api.ErrArg},
	} {
		x := with(func(l *api.Lift) { l.Level = c.level })
		off, again, e := lift.Levels(x, c.floor, c.loads)
		if !slices.Equal(off, c.off) || !slices.Equal(again, c.again) || e != c.e {
			t.Errorf("Levels with the level %d at %d of %v = %v, %v, %d", c.level, c.floor, c.loads, off, again, e)
		}
	}
}

// TestReach is P5.8.
func TestReach(t *testing.T) {
	slow := with(func(l *api.Lift) { l.Speed, l.Accel = 1, 100 })
	fast := with(func(l *api.Lift) { l.Speed, l.Accel = 100, 100 })
	for _, c := range []struct {
		l           api.Lift
		ticks, want int
		e           api.Errno
	}{
		{l(), 1, 3, api.OK},
		{l(), 2, 6, api.OK},
		{l(), 3, 12, api.OK},
		{l(), 5, 27, api.OK},
		{l(), 8, 56, api.OK},
		{l(), 0, 0, api.OK},
		{l(), 1000, 994*10 + 2*(3+6+9), api.OK},
		{slow, 1000, 1000, api.OK},
		{fast, 1000, 100000, api.OK},
		{l(), -1, 0, api.ErrArg},
		{l(), 1001, 0, api.ErrArg},
	} {
		got, e := lift.Reach(c.l, c.ticks)
		if got != c.want || e != c.e {
			t.Errorf("Reach of %v in %d = %d, %d", c.l, c.ticks, got, e)
		}
	}
}

// TestTrip is P5.9.
func TestTrip(t *testing.T) {
	to := func(height, speed, accel int) api.Lift {
		return with(func(l *api.Lift) { l.Floors, l.Speed, l.Accel = []int{0, height}, speed, accel })
	}
	for _, c := range []struct {
		l        api.Lift
		from, to int
		want     []int
		e        api.Errno
	}{
		{l(), 0, 1, []int{3, 6, 9, 10, 7, 4, 1}, api.OK},
		{l(), 1, 0, []int{3, 6, 9, 10, 7, 4, 1}, api.OK},
		{l(), 2, 2, nil, api.OK},
		{l(), 0, 0, nil, api.OK},
		{to(3, 10, 3), 0, 1, []int{3}, api.OK},
		{to(4, 10, 3), 0, 1, []int{3, 1}, api.OK},
		{to(7, 10, 3), 0, 1, []int{3, 3, 1}, api.OK}, // from 4 it could not stop in time
		{to(8, 10, 3), 0, 1, []int{3, 4, 1}, api.OK},
		{to(1, 100, 100), 0, 1, []int{1}, api.OK},
		{to(1000, 100, 100), 0, 1, slices.Repeat([]int{100}, 10), api.OK},
		{to(1000, 1, 1), 1, 0, slices.Repeat([]int{1}, 1000), api.OK},
		{l(), -1, 0, nil, api.ErrArg},
		{l(), 3, 0, nil, api.ErrArg},
		{l(), 0, -1, nil, api.ErrArg},
		{l(), 0, 3, nil, api.ErrArg},
	} {
		got, e := lift.Trip(c.l, c.from, c.to)
		if !slices.Equal(got, c.want) || e != c.e {
			t.Errorf("Trip of %v from %d to %d = %v, %d", c.l, c.from, c.to, got, e)
		}
	}
}
