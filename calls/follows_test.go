package calls_test

import (
	"math/rand"
	"slices"
	"testing"

	"newel/api"
	"newel/calls"
	"newel/lift"
)

func waitsOf(t *testing.T, c api.Car, l []api.Press) []int {
	t.Helper()
	waits, e := calls.Waits(c, l)
	if e != api.OK || len(waits) != len(l) {
		t.Fatalf("Waits(%v, %v) = %v, %d", c, l, waits, e)
	}
	return waits
}

func worstAt(t *testing.T, c api.Car, floor int) int {
	t.Helper()
	worst, e := calls.Worst(c, floor)
	if e != api.OK {
		t.Fatalf("Worst(%v, %d): %d", c, floor, e)
	}
	return worst
}

func played(t *testing.T, c api.Car, l []api.Press, ticks int) []api.Ride {
	t.Helper()
	rides, e := calls.Play(c, l, ticks)
	if e != api.OK || len(rides) != ticks {
		t.Fatalf("Play(%v, %v, %d) = %v, %d", c, l, ticks, rides, e)
	}
	return rides
}

// TestEachCallInTime is P7.10 on any presses; TestWitness is its second half, for each car.
func TestEachCallInTime(t *testing.T) {
	r := rand.New(rand.NewSource(105))
	longest := 0
	for range 5000 {
		c := anyCar(r)
		l := anyDay(r, c)
		for number, wait := range waitsOf(t, c, l) {
			worst := worstAt(t, c, l[number].Floor)
			if wait < 0 || wait > worst {
				t.Fatalf("Waits(%v, %v): the press %d waits %d, but Worst is %d", c, l, number, wait, worst)
			}
			if wait == worst && worst > 0 {
				longest++
			}
		}
	}
	if longest < 100 {
		t.Errorf("only %d presses wait as long as Worst", longest)
	}
}

// TestEachRideIsRight is P7.11.
func TestEachRideIsRight(t *testing.T) {
	r := rand.New(rand.NewSource(106))
	latest := 0
	for range 1000 {
		c := anyCar(r)
		l := anyDay(r, c)
		rides := played(t, c, l, 600)
		var last [api.MaxFloor + 1]int // when each floor is not wanted any more
		for tick := len(rides) - 1; tick >= 0; tick-- {
			ride := rides[tick]
			if !refRight(c, ride) {
				t.Fatalf("Play(%v, %v): %v at %d is not right", c, l, ride, tick)
			}
			for floor := range last {
				if ride.Wants>>floor%2 == 0 {
					last[floor] = tick
					continue
				}
				bound, e := calls.Bound(c, ride, floor)
				if e != api.OK || last[floor]-tick > bound || bound > worstAt(t, c, floor) {
					t.Fatalf("Bound(%v, %v, %d) = %d, %d, but with %v it is served in %d", c, ride, floor, bound, e, l, last[floor]-tick)
				}
				if last[floor]-tick == bound {
					latest++
				}
			}
		}
	}
	if latest < 1000 {
		t.Errorf("only %d times a floor is served as late as Bound", latest)
	}
}

// TestWhatComesLater is P7.12 for presses behind a tick.
func TestWhatComesLater(t *testing.T) {
	r := rand.New(rand.NewSource(107))
	for range 1000 {
		c := anyCar(r)
		l := anyDay(r, c)
		rides := played(t, c, l, 600)
		tick := r.Intn(501)
		until := func(p api.Press) bool { return p.At > tick }
		first := slices.DeleteFunc(slices.Clone(l), until)
		other := slices.DeleteFunc(anyPresses(r, 20, 501, c), func(p api.Press) bool { return !until(p) })
		other = append(slices.Clone(first), other...)
		if len(other) > api.MaxPresses {
			continue
		}
		for _, some := range [][]api.Press{first, other} {
			if got := played(t, c, some, tick+1); !slices.Equal(got, rides[:tick+1]) {
				t.Fatalf("Play(%v, %v) = %v, but with %v it is %v", c, l, rides[:tick+1], some, got)
			}
		}
	}
}

// TestWhoPressesAgain is P7.12 for a press at a floor that waits already.
func TestWhoPressesAgain(t *testing.T) {
	r := rand.New(rand.NewSource(108))
	again := 0
	for range 3000 {
		c := anyCar(r)
		l := anyDay(r, c)
		waits := waitsOf(t, c, l)
		if len(l) == 0 || len(l) == api.MaxPresses {
			continue
		}
		number := r.Intn(len(l))
		p, later := l[number], r.Intn(waits[number]+1)
		p.At += later
		if p.At > api.MaxPressed {
			continue
		}
		if later > 0 {
			again++
		}
		place := number + 1
		for place < len(l) && l[place].At <= p.At {
			place++
		}
		more := slices.Insert(slices.Clone(l), place, p)
		want := slices.Insert(slices.Clone(waits), place, waits[number]-later)
		if got := waitsOf(t, c, more); !slices.Equal(got, want) {
			t.Fatalf("Waits(%v, %v) = %v, want %v", c, more, got, want)
		}
		if got, want := played(t, c, more, 600), played(t, c, l, 600); !slices.Equal(got, want) {
			t.Fatalf("Play(%v, %v) = %v, but without %v it is %v", c, more, got, p, want)
		}
	}
	if again < 500 {
		t.Errorf("only %d press again", again)
	}
}

// TestTheWayThereAndBack is P7.13.
func TestTheWayThereAndBack(t *testing.T) {
	for _, c := range allCars(api.MaxFloor) {
		for floor := c.Low; floor <= c.High; floor++ {
			n, want := max(c.High-floor, floor-c.Low), 0
			if n > 0 {
				want = 2*n*c.Move + (2*n-1)*c.Stop
			}
			if worst := worstAt(t, c, floor); worst != want {
				t.Fatalf("Worst(%v, %d) = %d, want %d", c, floor, worst, want)
			}
		}
	}
}

// TestNoShareIsBetter is P7.14 for shares.
func TestNoShareIsBetter(t *testing.T) {
	r := rand.New(rand.NewSource(109))
	worse := 0
	for range 60 {
		g := anyGroup(r)
		l := anyPresses(r, 6, 1+r.Intn(40), g...)
		best, e := calls.Share(g, l)
		if e != api.OK {
			t.Fatalf("Share(%v, %v): %d", g, l, e)
		}
		least, e := calls.Longest(g, l, best)
		if e != api.OK {
			t.Fatalf("Longest(%v, %v, %v): %d", g, l, best, e)
		}
		for range 50 {
			other := slices.Clone(best)
			for number := range other {
				if r.Intn(2) == 0 {
					other[number] = r.Intn(len(g))
				}
			}
			wait, e := calls.Longest(g, l, other)
			if e != api.OK {
				continue
			}
			if wait < least || wait == least && slices.Compare(other, best) < 0 {
				t.Fatalf("Share(%v, %v) = %v with %d, but %v has %d", g, l, best, least, other, wait)
			}
			if wait > least {
				worse++
			}
		}
	}
	if worse < 300 {
		t.Errorf("only %d shares are worse", worse)
	}
}

// TestDividedFloorsAreServed is P7.14 for divisions.
func TestDividedFloorsAreServed(t *testing.T) {
	r := rand.New(rand.NewSource(110))
	longest := 0
	for range 300 {
		g := anyGroup(r)
		floors := len(g) + r.Intn(api.MaxFloor+2-len(g))
		highs, worst, e := calls.Divide(g, floors)
		if e != api.OK || len(highs) != len(g) {
			t.Fatalf("Divide(%v, %d) = %v, %d, %d", g, floors, highs, worst, e)
		}
		low := 0
		for car, high := range highs {
			c := g[car]
			c.Low, c.High, c.Start = low, high, low
			for range 10 {
				l := anyDay(r, c)
				if wait := slices.Max(append(waitsOf(t, c, l), 0)); wait > worst {
					t.Fatalf("Divide(%v, %d) = %v, %d, but with %v the car %d lets wait for %d", g, floors, highs, worst, l, car, wait)
				}
			}
			for floor := low; floor <= high; floor++ {
				l, _ := calls.Witness(c, floor)
				if wait := slices.Max(waitsOf(t, c, l)); wait == worst {
					longest++
				}
			}
			low = high + 1
		}
	}
	if longest < 300 {
		t.Errorf("only %d waits are as long as the worst", longest)
	}
}

// station is a lift with its door, and the car within whose Move and Stop they are: somebody may stand in the door so many times.
type station struct {
	l      api.Lift
	d      api.Door
	breaks int
	c      api.Car
}

// anyStation draws a lift that goes from each floor to the next one, and opens and closes its door, in few ticks.
func anyStation(t *testing.T, r *rand.Rand) station {
	for {
		s := station{l: api.Lift{Car: 1, Counter: 1, Floors: []int{0}, Num: 1, Den: 1, Speed: 1 + r.Intn(9), Accel: 1 + r.Intn(9), Stiff: 1}}
		for top := range 1 + r.Intn(api.MaxFloor) {
			s.l.Floors = append(s.l.Floors, s.l.Floors[top]+1+r.Intn(12))
		}
		s.d, s.breaks = api.Door{Wide: 1 + r.Intn(2), Wait: r.Intn(3)}, r.Intn(3)
		s.c = api.Car{High: len(s.l.Floors) - 1}
		for floor := range s.c.High {
			s.c.Move = max(s.c.Move, len(trip(t, s.l, floor, floor+1)))
		}
		s.c.Stop, _ = lift.Dwell(s.d, s.breaks)
		s.c.Start = r.Intn(len(s.l.Floors))
		if calls.Check(s.c, nil) == api.OK {
			return s
		}
	}
}

func trip(t *testing.T, l api.Lift, from, to int) []int {
	t.Helper()
	speeds, e := lift.Trip(l, from, to)
	if e != api.OK {
		t.Fatalf("Trip(%v, %d, %d): %d", l, from, to, e)
	}
	return speeds
}

// stand returns for how many ticks the lift stands at a floor, with any breaks.
func (s station) stand(t *testing.T, r *rand.Rand) int {
	t.Helper()
	var breaks []int
	for tick := range s.c.Stop {
		if len(breaks) < s.breaks && r.Intn(3) == 0 {
			breaks = append(breaks, tick)
		}
	}
	open, e := lift.Doors(s.d, breaks)
	if e != api.OK {
		t.Fatalf("Doors(%v, %v): %d", s.d, breaks, e)
	}
	return len(open)
}

// serve runs the lift by the rule of a car, with its own trips and doors, and returns the wait of each press.
func (s station) serve(t *testing.T, r *rand.Rand, l []api.Press) []int {
	t.Helper()
	move := func(from, to int) int { return len(trip(t, s.l, from, to)) }
	stop := func() int { return s.stand(t, r) }
	_, served := refCar{move: move, stop: stop, floor: s.c.Start, way: 1}.run(l, 700)
	return waited(t, l, served)
}

// TestLiftsServeInTime is P0.3.
func TestLiftsServeInTime(t *testing.T) {
	r := rand.New(rand.NewSource(111))
	late, quicker := 0, 0
	for range 500 {
		s := anyStation(t, r)
		l := anyDay(r, s.c)
		longest := 0
		for number, wait := range s.serve(t, r, l) {
			worst := worstAt(t, s.c, l[number].Floor)
			if wait > worst {
				t.Fatalf("%v serves %v: the press %d waits for %d, but Worst is %d", s, l, number, wait, worst)
			}
			if 2*wait > worst {
				late++
			}
			longest = max(longest, wait)
		}
		if len(l) > 0 && longest < slices.Max(waitsOf(t, s.c, l)) {
			quicker++
		}
	}
	if late < 500 || quicker < 50 {
		t.Errorf("%d presses wait long, %d lifts are quicker than their car", late, quicker)
	}
}
