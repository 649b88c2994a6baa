package lift_test

import (
	"math/rand"
	"slices"
	"testing"

	"newel/api"
	"newel/lift"
)

// The functions below say the chapter's text again, in other ways than the program does: they look at all heights, loads, counterweights,
// speeds and breaks.

// anyLift draws a valid lift with floors up to a height and speeds up to a greatest one.
func anyLift(r *rand.Rand, height, speed, weight int) api.Lift {
	x := api.Lift{Car: 1 + r.Intn(weight), Counter: 1 + r.Intn(weight), Rated: r.Intn(weight), Rope: r.Intn(4), Floors: []int{0},
		Num: 1 + r.Intn(100), Speed: 1 + r.Intn(speed), Accel: 1 + r.Intn(speed),
		Over: r.Intn(20), Stiff: 1 + r.Intn(100), Level: r.Intn(30)}
	if r.Intn(3) > 0 { // as weights that may stand against each other
		x.Counter = min(x.Car+r.Intn(x.Rated+1), api.MaxWeight)
	}
	x.Den = 1 + r.Intn(x.Num)
	for h := 1; h <= height; h++ {
		if len(x.Floors) < api.MaxFloors && (r.Intn(4) == 0 || h == height) {
			x.Floors = append(x.Floors, h)
		}
	}
	if len(x.Floors) == 1 {
		x.Floors = append(x.Floors, height)
	}
	return x
}

func anySpan(r *rand.Rand, most int) api.Span {
	a, b := r.Intn(most+1), r.Intn(most+1)
	return span(min(a, b), max(a, b))
}

func highest(x api.Lift) int { return slices.Max(x.Floors) }

// refSlips asks about each of the sides that is the heavier one; both are if they weigh the same.
func refSlips(x api.Lift, height, load, accel int) bool {
	a := x.Car + load + x.Rope*(highest(x)-height)
	b := x.Counter + x.Rope*height
	one := a*(1000+accel)*x.Den > b*(1000-accel)*x.Num
	other := b*(1000+accel)*x.Den > a*(1000-accel)*x.Num
	return a >= b && one || b >= a && other
}

func refGrip(x api.Lift, heights, loads api.Span) (int, api.Errno) {
	for accel := 0; ; accel++ {
		for h := heights.Low; h <= heights.High; h++ {
			for load := loads.Low; load <= loads.High; load++ {
				if !refSlips(x, h, load, accel) {
					continue
				}
				if accel == 0 {
					return 0, api.ErrNone
				}
				return accel - 1, api.OK
			}
		}
	}
}

func refBalance(x api.Lift, loads api.Span, most int) (counter, worst int) {
	worst = 1 << 40
	for c := 1; c <= most; c++ {
		greatest := 0
		for h := 0; h <= highest(x); h++ {
			for load := loads.Low; load <= loads.High; load++ {
				by := x.Car + load + x.Rope*(highest(x)-h) - c - x.Rope*h
				greatest = max(greatest, by, -by)
			}
		}
		if greatest < worst {
			counter, worst = c, greatest
		}
	}
	return counter, worst
}

// refSink counts the wholes that are in a change of the load.
func refSink(x api.Lift, floor, from, to int) int {
	if to < from {
		return -refSink(x, floor, to, from)
	}
	by := 0
	for left := (to - from) * (x.Over + highest(x) - x.Floors[floor]); left >= x.Stiff; left -= x.Stiff {
		by++
	}
	return by
}

// refLevels asks for each load anew from which one the car stood level last.
func refLevels(x api.Lift, floor int, loads []int) (off, again []int) {
	off = []int{0}
	for i := 1; i < len(loads); i++ {
		level := 0
		if len(again) > 0 {
			level = again[len(again)-1]
		}
		by := refSink(x, floor, loads[level], loads[i])
		if by > x.Level || by < -x.Level {
			again = append(again, i)
			by = 0
		}
		off = append(off, by)
	}
	return off, again
}

// refTrips returns all trips of so many ticks, the one with the greatest first speeds first.
func refTrips(x api.Lift, ticks int) [][]int {
	all := [][]int{nil}
	for tick := range ticks {
		var longer [][]int
		for _, trip := range all {
			before := 0
			if tick > 0 {
				before = trip[tick-1]
			}
			for speed := x.Speed; speed >= 0; speed-- {
				differs := max(speed-before, before-speed)
				if differs <= x.Accel && (tick < ticks-1 || speed <= x.Accel) {
					longer = append(longer, append(slices.Clone(trip), speed))
				}
			}
		}
		all = longer
	}
	return all
}

func sum(l []int) int {
	n := 0
	for _, x := range l {
		n += x
	}
	return n
}

// refReach looks at all speeds of a tick from the way that leads to each of them.
func refReach(x api.Lift, ticks int) int {
	if ticks == 0 {
		return 0
	}
	far := make([]int, x.Speed+1)
	for speed := range far {
		far[speed] = -1
		if speed <= x.Accel {
			far[speed] = speed
		}
	}
	for range ticks - 1 {
		next := make([]int, x.Speed+1)
		for speed := range next {
			next[speed] = -1
			for before := max(0, speed-x.Accel); before <= min(x.Speed, speed+x.Accel); before++ {
				if far[before] >= 0 {
					next[speed] = max(next[speed], far[before]+speed)
				}
			}
		}
		far = next
	}
	return slices.Max(far[:min(x.Speed, x.Accel)+1])
}

// refRest is how far a door is open behind each tick to come, from now on, when it begins to open.
func refRest(d api.Door, open int) []int {
	var widths []int
	for w := open + 1; w <= d.Wide; w++ {
		widths = append(widths, w)
	}
	widths = append(widths, slices.Repeat([]int{d.Wide}, d.Wait)...)
	for w := d.Wide - 1; w >= 0; w-- {
		widths = append(widths, w)
	}
	return widths
}

// refDoors lets a break put all that is to come in place of what was, unless the door opens.
func refDoors(d api.Door, breaks []int) []int {
	var behind []int
	open := 0
	rest := refRest(d, 0)
	for tick := 0; len(rest) > 0; tick++ {
		if slices.Contains(breaks, tick) && rest[0] <= open {
			rest = refRest(d, open)
		}
		open, rest = rest[0], rest[1:]
		behind = append(behind, open)
	}
	return behind
}

// refDwell tries all lists of n breaks that begin behind a tick.
func refDwell(d api.Door, n int, breaks []int) int {
	longest := len(refDoors(d, breaks))
	if n == 0 {
		return longest
	}
	first := 0
	if len(breaks) > 0 {
		first = breaks[len(breaks)-1] + 1
	}
	for tick := first; tick < len(refDoors(d, breaks)); tick++ {
		longest = max(longest, refDwell(d, n-1, append(slices.Clone(breaks), tick)))
	}
	return longest
}

// TestRopesAgainstReference is P5.2 to P5.7.
func TestRopesAgainstReference(t *testing.T) {
	r := rand.New(rand.NewSource(51))
	slipping, holding, none, levelled, odd := 0, 0, 0, 0, 0
	for range 3000 {
		x := anyLift(r, 1+r.Intn(12), 10, 60)
		heights, loads := anySpan(r, highest(x)), anySpan(r, x.Rated)
		height, load, accel := r.Intn(highest(x)+1), r.Intn(x.Rated+1), r.Intn(api.Gravity)
		is, e := lift.Slips(x, height, load, accel)
		if want := refSlips(x, height, load, accel); is != want || e != api.OK {
			t.Fatalf("Slips(%v, %d, %d, %d) = %v, %d", x, height, load, accel, is, e)
		} else if is {
			slipping++
		}
		got, e := lift.Grip(x, heights, loads)
		if want, f := refGrip(x, heights, loads); got != want || e != f {
			t.Fatalf("Grip(%v, %v, %v) = %d, %d, want %d, %d", x, heights, loads, got, e, want, f)
		} else if e == api.ErrNone {
			none++
		} else {
			holding++
		}
		counter, worst, e := lift.Balance(x, loads)
		if c, w := refBalance(x, loads, 200); counter != c || worst != w || e != api.OK {
			t.Fatalf("Balance(%v, %v) = %d, %d, %d, want %d, %d", x, loads, counter, worst, e, c, w)
		}
		odd += (loads.Low + loads.High) % 2
		floor, to := r.Intn(len(x.Floors)), r.Intn(x.Rated+1)
		got, e = lift.Sink(x, floor, load, to)
		if want := refSink(x, floor, load, to); got != want || e != api.OK {
			t.Fatalf("Sink(%v, %d, %d, %d) = %d, %d, want %d", x, floor, load, to, got, e, want)
		}
		steps := []int{load}
		for range r.Intn(10) {
			steps = append(steps, r.Intn(x.Rated+1))
		}
		off, again, e := lift.Levels(x, floor, steps)
		if o, a := refLevels(x, floor, steps); !slices.Equal(off, o) || !slices.Equal(again, a) || e != api.OK {
			t.Fatalf("Levels(%v, %d, %v) = %v, %v, %d, want %v, %v", x, floor, steps, off, again, e, o, a)
		}
		levelled += len(again)
	}
	if min(slipping, holding, none, levelled, odd) < 500 {
		t.Errorf("%d slipping, %d holding, %d without a grip, %d levelled, %d odd", slipping, holding, none, levelled, odd)
	}
}

// TestTripsAgainstReference is P5.8 and P5.9.
func TestTripsAgainstReference(t *testing.T) {
	r := rand.New(rand.NewSource(52))
	long := 0
	for range 1000 {
		x := anyLift(r, 1+r.Intn(10), 4, 60)
		for ticks := range 20 {
			if got, e := lift.Reach(x, ticks); got != refReach(x, ticks) || e != api.OK {
				t.Fatalf("Reach(%v, %d) = %d, %d, want %d", x, ticks, got, e, refReach(x, ticks))
			}
		}
		from, to := r.Intn(len(x.Floors)), r.Intn(len(x.Floors))
		way := max(x.Floors[to]-x.Floors[from], x.Floors[from]-x.Floors[to])
		got, e := lift.Trip(x, from, to)
		want, is := []int(nil), false
		for ticks := 0; !is; ticks++ {
			all := refTrips(x, ticks)
			at := slices.IndexFunc(all, func(trip []int) bool { return sum(trip) == way })
			if is = at >= 0; is {
				want = all[at]
			}
		}
		if !slices.Equal(got, want) || e != api.OK {
			t.Fatalf("Trip(%v, %d, %d) = %v, %d, want %v", x, from, to, got, e, want)
		}
		if len(got) > 3 {
			long++
		}
	}
	if long < 100 {
		t.Errorf("only %d long trips", long)
	}
}

// TestDoorsAgainstReference is P5.10 to P5.12.
func TestDoorsAgainstReference(t *testing.T) {
	r := rand.New(rand.NewSource(53))
	late := 0
	for range 3000 {
		d := door(1+r.Intn(6), r.Intn(6))
		var breaks []int
		for tick := range 60 {
			if len(breaks) < api.MaxBreaks && r.Intn(4) == 0 {
				breaks = append(breaks, tick)
			}
		}
		got, e := lift.Doors(d, breaks)
		if want := refDoors(d, breaks); !slices.Equal(got, want) || e != api.OK {
			t.Fatalf("Doors(%v, %v) = %v, %d, want %v", d, breaks, got, e, want)
		}
		if len(got) > 2*d.Wide+d.Wait {
			late++
		}
	}
	if late < 500 {
		t.Errorf("only %d doors are late", late)
	}
	for wide := 1; wide <= 3; wide++ {
		for wait := range 4 {
			for n := range 4 {
				d := door(wide, wait)
				if got, e := lift.Dwell(d, n); got != refDwell(d, n, nil) || e != api.OK {
					t.Fatalf("Dwell(%v, %d) = %d, %d, want %d", d, n, got, e, refDwell(d, n, nil))
				}
			}
		}
	}
}
