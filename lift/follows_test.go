package lift_test

import (
	"math/rand"
	"slices"
	"testing"

	"newel/api"
	"newel/lift"
)

// anyLargeLift draws a lift anywhere within the limits.
func anyLargeLift(r *rand.Rand) api.Lift {
	x := anyLift(r, 1+r.Intn(api.MaxHeight), 1+r.Intn(api.MaxRate), 1+r.Intn(api.MaxWeight))
	x.Rope, x.Over, x.Level, x.Stiff = r.Intn(api.MaxRate+1), r.Intn(api.MaxHeight+1), r.Intn(api.MaxHeight+1), 1+r.Intn(api.MaxStiff)
	x.Floors = []int{0}
	for range 1 + r.Intn(api.MaxFloors-1) {
		x.Floors = append(x.Floors, 1+r.Intn(api.MaxHeight))
	}
	slices.Sort(x.Floors)
	x.Floors = slices.Compact(x.Floors)
	return x
}

func within(r *rand.Rand, s api.Span) int { return s.Low + r.Intn(s.High-s.Low+1) }

// TestTheRopeHolds is P5.13.
func TestTheRopeHolds(t *testing.T) {
	r := rand.New(rand.NewSource(61))
	slips := func(x api.Lift, height, load, accel int) bool {
		t.Helper()
		is, e := lift.Slips(x, height, load, accel)
		if e != api.OK {
			t.Fatalf("Slips(%v, %d, %d, %d): %d", x, height, load, accel, e)
		}
		return is
	}
	times := map[api.Errno]int{}
	for range 5000 {
		x := anyLargeLift(r)
		heights, loads := anySpan(r, highest(x)), anySpan(r, x.Rated)
		grip, e := lift.Grip(x, heights, loads)
		times[e]++
		if e == api.ErrNone {
			grip = -1
		} else if e != api.OK {
			t.Fatalf("Grip(%v, %v, %v): %d", x, heights, loads, e)
		}
		for range 10 {
			height, load := within(r, heights), within(r, loads)
			if grip >= 0 && slips(x, height, load, r.Intn(grip+1)) {
				t.Fatalf("Grip(%v, %v, %v) = %d, but it slips at %d with %d", x, heights, loads, grip, height, load)
			}
		}
		if grip+1 == api.Gravity {
			continue
		}
		some := false
		for _, height := range []int{heights.Low, heights.High} {
			for _, load := range []int{loads.Low, loads.High} {
				some = slips(x, height, load, grip+1) || some
			}
		}
		if !some {
			t.Fatalf("Grip(%v, %v, %v) = %d, but it does not slip with one more", x, heights, loads, grip)
		}
	}
	if min(times[api.OK], times[api.ErrNone]) < 500 {
		t.Errorf("grips and none: %v", times)
	}
}

// difference returns by how much both sides differ with a counterweight.
func difference(t *testing.T, x api.Lift, counter, height, load int) int {
	t.Helper()
	x.Counter = counter
	car, other, e := lift.Sides(x, height, load)
	if e != api.OK {
		t.Fatalf("Sides(%v, %d, %d): %d", x, height, load, e)
	}
	return max(car-other, other-car)
}

// TestNoCounterweightIsBetter is P5.14.
func TestNoCounterweightIsBetter(t *testing.T) {
	r := rand.New(rand.NewSource(62))
	greatest := 0
	for range 5000 {
		x := anyLargeLift(r)
		loads := anySpan(r, x.Rated)
		counter, worst, e := lift.Balance(x, loads)
		if e != api.OK || counter < 1 || counter > api.MaxWeight {
			t.Fatalf("Balance(%v, %v) = %d, %d, %d", x, loads, counter, worst, e)
		}
		if counter == api.MaxWeight {
			greatest++
		}
		for range 10 {
			if by := difference(t, x, counter, r.Intn(highest(x)+1), within(r, loads)); by > worst {
				t.Fatalf("Balance(%v, %v) = %d, %d, but there is %d", x, loads, counter, worst, by)
			}
		}
		for _, other := range []int{counter, counter - 1, counter + 1, 1 + r.Intn(api.MaxWeight)} {
			if other < 1 || other > api.MaxWeight {
				continue
			}
			by := max(difference(t, x, other, 0, loads.High), difference(t, x, other, highest(x), loads.Low))
			if by < worst || by == worst && other < counter || other == counter && by != worst {
				t.Fatalf("Balance(%v, %v) = %d, %d, but %d has %d", x, loads, counter, worst, other, by)
			}
		}
	}
	if greatest < 50 {
		t.Errorf("only %d have the greatest counterweight", greatest)
	}
}

// TestNobodyStumbles is P5.15.
func TestNobodyStumbles(t *testing.T) {
	r := rand.New(rand.NewSource(63))
	near, again := 0, 0
	for range 3000 {
		x := anyLargeLift(r)
		x.Stiff = 1 + r.Intn(1+x.Rated*10)
		floor := r.Intn(len(x.Floors))
		var loads []int
		for range 1 + r.Intn(api.MaxSteps) {
			loads = append(loads, r.Intn(x.Rated+1))
		}
		off, l, e := lift.Levels(x, floor, loads)
		if e != api.OK || len(off) != len(loads) {
			t.Fatalf("Levels(%v, %d, %v) = %v, %v, %d", x, floor, loads, off, l, e)
		}
		for i, by := range off {
			if max(by, -by) > x.Level || slices.Contains(l, i) && by != 0 {
				t.Fatalf("Levels(%v, %d, %v) = %v, %v", x, floor, loads, off, l)
			}
			if by != 0 {
				near++
			}
		}
		again += len(l)
	}
	if min(near, again) < 1000 {
		t.Errorf("%d times near, %d times level again", near, again)
	}
}

// isTrip says what a trip is.
func isTrip(x api.Lift, trip []int) bool {
	before := 0
	for _, speed := range append(slices.Clone(trip), 0) {
		if speed < 0 || speed > x.Speed || max(speed-before, before-speed) > x.Accel {
			return false
		}
		before = speed
	}
	return true
}

// anyTrip draws a trip of so many ticks, most of them fast.
func anyTrip(r *rand.Rand, x api.Lift, ticks int) []int {
	var trip []int
	before := 0
	for left := ticks; left > 0; left-- {
		low := max(0, before-x.Accel)
		high := min(x.Speed, before+x.Accel, x.Accel*left)
		speed := high
		if r.Intn(4) == 0 {
			speed = within(r, span(low, high))
		}
		trip = append(trip, speed)
		before = speed
	}
	return trip
}

// TestNoTripIsQuicker is P5.16.
func TestNoTripIsQuicker(t *testing.T) {
	r := rand.New(rand.NewSource(64))
	for range 3000 {
		x := anyLargeLift(r)
		from, to := r.Intn(len(x.Floors)), r.Intn(len(x.Floors))
		way := max(x.Floors[to]-x.Floors[from], x.Floors[from]-x.Floors[to])
		trip, e := lift.Trip(x, from, to)
		back, f := lift.Trip(x, to, from)
		if e != api.OK || f != api.OK || !isTrip(x, trip) || sum(trip) != way || len(back) != len(trip) {
			t.Fatalf("Trip(%v, %d, %d) = %v, %d, and back %v, %d", x, from, to, trip, e, back, f)
		}
		if from == to {
			if len(trip) > 0 {
				t.Fatalf("Trip(%v, %d, %d) = %v", x, from, to, trip)
			}
			continue
		}
		if far, e := lift.Reach(x, len(trip)-1); far >= way || e != api.OK {
			t.Fatalf("Trip(%v, %d, %d) = %v, but Reach = %d, %d", x, from, to, trip, far, e)
		}
		for range 5 {
			if other := anyTrip(r, x, r.Intn(len(trip))); sum(other) >= way {
				t.Fatalf("Trip(%v, %d, %d) = %v, but there is %v", x, from, to, trip, other)
			}
			other := anyTrip(r, x, len(trip))
			if sum(other) == way && slices.Compare(other, trip) > 0 {
				t.Fatalf("Trip(%v, %d, %d) = %v, but there is %v", x, from, to, trip, other)
			}
		}
	}
}

// ways returns which ways trips of so many ticks lead.
func ways(x api.Lift, ticks int) map[int]bool {
	type end struct{ speed, way int }
	ends := map[end]bool{{}: true}
	for range ticks {
		next := map[end]bool{}
		for at := range ends {
			for speed := max(0, at.speed-x.Accel); speed <= min(x.Speed, at.speed+x.Accel); speed++ {
				next[end{speed, at.way + speed}] = true
			}
		}
		ends = next
	}
	found := map[int]bool{}
	for at := range ends {
		if at.speed <= x.Accel {
			found[at.way] = true
		}
	}
	return found
}

// TestReachGrows is P5.17.
func TestReachGrows(t *testing.T) {
	r := rand.New(rand.NewSource(65))
	reach := func(x api.Lift, ticks int) int {
		t.Helper()
		way, e := lift.Reach(x, ticks)
		if e != api.OK {
			t.Fatalf("Reach(%v, %d): %d", x, ticks, e)
		}
		return way
	}
	for range 300 {
		x := anyLargeLift(r)
		for ticks := range 100 {
			way, next := reach(x, ticks), reach(x, ticks+1)
			if next < way || next > way+x.Speed {
				t.Fatalf("Reach(%v, ...) = %d and %d behind %d", x, way, next, ticks)
			}
			if trip := anyTrip(r, x, ticks); sum(trip) > way {
				t.Fatalf("Reach(%v, %d) = %d, but there is %v", x, ticks, way, trip)
			}
		}
		small := anyLift(r, 1+r.Intn(9), 7, 60)
		ticks := r.Intn(10)
		found := ways(small, ticks)
		for way := range reach(small, ticks) + 1 {
			if !found[way] {
				t.Fatalf("Reach(%v, %d) = %d, but nothing leads %d", small, ticks, reach(small, ticks), way)
			}
		}
		if found[reach(small, ticks)+1] {
			t.Fatalf("Reach(%v, %d) = %d", small, ticks, reach(small, ticks))
		}
	}
}

// TestTheDoorCloses is P5.18.
func TestTheDoorCloses(t *testing.T) {
	r := rand.New(rand.NewSource(66))
	late := 0
	for range 3000 {
		d, n := door(1+r.Intn(api.MaxWide), r.Intn(api.MaxWait+1)), r.Intn(api.MaxBreaks+1)
		longest, e := lift.Dwell(d, n)
		if e != api.OK {
			t.Fatalf("Dwell(%v, %d): %d", d, n, e)
		}
		breaks := map[int]bool{}
		for len(breaks) < n {
			breaks[r.Intn(longest+30)] = true
		}
		var some []int
		for tick := range breaks {
			some = append(some, tick)
		}
		slices.Sort(some)
		open, e := lift.Doors(d, some)
		if e != api.OK || len(open) > longest || open[len(open)-1] != 0 {
			t.Fatalf("Dwell(%v, %d) = %d, but %v lead to %v, %d", d, n, longest, some, open, e)
		}
		var last []int // in the tick in which the door would close
		for range n {
			open, _ = lift.Doors(d, last)
			tick := len(open) - 1
			if len(last) > 0 {
				tick = max(tick, last[len(last)-1]+1)
			}
			last = append(last, tick)
		}
		if open, e = lift.Doors(d, last); e != api.OK || len(open) != longest {
			t.Fatalf("Dwell(%v, %d) = %d, but %v lead to %d", d, n, longest, last, len(open))
		}
		if longest > 2*d.Wide+d.Wait {
			late++
		}
	}
	if late < 2000 {
		t.Errorf("only %d doors are late", late)
	}
}
