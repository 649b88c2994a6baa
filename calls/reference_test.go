package calls_test

import (
	"math/rand"
	"slices"
	"testing"

	"newel/api"
	"newel/calls"
)

// The functions below say the chapter's text again, in other ways than the program does: a car is run press by press, with the ticks in
// which it is done; the longest waits are looked for in all ways in which floors can be pressed; shares and divisions are counted.

// refCar is a car that knows when it is done, and which presses wait; move and stop tell how long it goes between two floors, and stands.
type refCar struct {
	move        func(from, to int) int
	stop        func() int
	floor, way  int
	stood       bool
	doing, done int
	waiting     []int
}

// ride tells how the car stands at the end of a tick.
func (c refCar) ride(l []api.Press, tick int) api.Ride {
	r := api.Ride{Floor: c.floor, Up: c.way > 0, Stood: c.stood, Doing: c.doing}
	if c.doing != api.Rests {
		r.Left = c.done - tick
	}
	for floor := range api.MaxFloor + 1 {
		if slices.ContainsFunc(c.waiting, func(number int) bool { return l[number].Floor == floor }) {
			r.Wants += []int{1, 2, 4, 8, 16, 32}[floor]
		}
	}
	return r
}

// run returns the rides of so many ticks, and when each press is served (-1: not in these ticks).
func run(c api.Car, l []api.Press, ticks int) (rides []api.Ride, served []int) {
	move := func(from, to int) int { return c.Move }
	stop := func() int { return c.Stop }
	return refCar{move: move, stop: stop, floor: c.Start, way: 1}.run(l, ticks)
}

func (x refCar) run(l []api.Press, ticks int) (rides []api.Ride, served []int) {
	served = slices.Repeat([]int{-1}, len(l))
	for tick := range ticks {
		if x.doing != api.Rests && x.done == tick {
			if x.doing == api.Moves {
				x.floor, x.stood = x.floor+x.way, false
			}
			x.doing = api.Rests
		}
		for number, p := range l {
			if p.At != tick {
				continue
			}
			if x.doing == api.Stands && x.floor == p.Floor {
				served[number] = tick
			} else {
				x.waiting = append(x.waiting, number)
			}
		}
		if x.doing == api.Rests && len(x.waiting) > 0 {
			x.start(l, tick, served)
		}
		rides = append(rides, x.ride(l, tick))
	}
	return rides, served
}

// start lets a car stand or move.
func (c *refCar) start(l []api.Press, tick int, served []int) {
	var here, ahead, behind []int
	for _, number := range c.waiting {
		switch by := (l[number].Floor - c.floor) * c.way; {
		case by == 0:
			here = append(here, number)
		case by > 0:
			ahead = append(ahead, number)
		default:
			behind = append(behind, number)
		}
	}
	others := append(slices.Clone(ahead), behind...)
	if len(here) > 0 && !(c.stood && len(others) > 0) {
		c.doing, c.done, c.stood, c.waiting = api.Stands, tick+c.stop(), true, others
		for _, number := range here {
			served[number] = tick
		}
		return
	}
	if len(ahead) == 0 {
		c.way = -c.way
	}
	c.doing, c.done = api.Moves, tick+c.move(c.floor, c.floor+c.way)
}

// refRight says which rides are right.
func refRight(c api.Car, r api.Ride) bool {
	above, below := false, false
	for floor := range 63 {
		wanted := r.Wants>>floor%2 != 0
		if wanted && (floor < c.Low || floor > c.High) {
			return false
		}
		above = above || wanted && floor > r.Floor
		below = below || wanted && floor < r.Floor
	}
	if r.Wants < 0 || r.Floor < c.Low || r.Floor > c.High {
		return false
	}
	switch r.Doing {
	case 0:
		return r.Left == 0 && r.Wants == 0
	case 1:
		return r.Left >= 1 && r.Left <= c.Move && (r.Up && above || !r.Up && below)
	case 2:
		return r.Left >= 1 && r.Left <= c.Stop && r.Stood && r.Wants>>r.Floor%2 == 0
	}
	return false
}

// behind returns how a car stands a tick later, if some floors are pressed.
func behind(c api.Car, r api.Ride, floors []int) api.Ride {
	r.Left = max(r.Left-1, 0)
	if r.Left == 0 {
		if r.Doing == api.Moves {
			r.Stood = false
			if r.Up {
				r.Floor++
			} else {
				r.Floor--
			}
		}
		r.Doing = api.Rests
	}
	is := make([]bool, api.MaxFloor+1)
	for floor := range is {
		is[floor] = r.Wants>>floor%2 == 1 || slices.Contains(floors, floor) && !(r.Doing == api.Stands && floor == r.Floor)
	}
	above, below := slices.Contains(is[r.Floor+1:], true), slices.Contains(is[:r.Floor], true)
	switch {
	case r.Doing != api.Rests || !slices.Contains(is, true):
	case is[r.Floor] && !r.Stood, is[r.Floor] && !above && !below:
		r.Doing, r.Left, r.Stood, is[r.Floor] = api.Stands, c.Stop, true, false
	default:
		r.Doing, r.Left = api.Moves, c.Move
		if r.Up && !above || !r.Up && !below {
			r.Up = !r.Up
		}
	}
	r.Wants = 0
	for floor, wanted := range is {
		if wanted {
			r.Wants |= 1 << floor
		}
	}
	return r
}

// choices returns all lists of floors of a car without one.
func choices(c api.Car, but int) [][]int {
	all := [][]int{nil}
	for floor := c.Low; floor <= c.High; floor++ {
		if floor == but {
			continue
		}
		for _, l := range all {
			all = append(all, append(slices.Clone(l), floor))
		}
	}
	return all
}

// search looks for the longest way to a floor in all ways in which floors can be pressed.
type search struct {
	c       api.Car
	floor   int
	choices [][]int
	known   map[api.Ride]int
}

func searchFor(c api.Car, floor int) search {
	return search{c, floor, choices(c, floor), map[api.Ride]int{}}
}

func (s search) longest(t *testing.T, r api.Ride) int {
	n, is := s.known[r]
	if is {
		if n < 0 {
			t.Fatalf("%v comes back to %v and does not serve %d", s.c, r, s.floor)
		}
		return n
	}
	s.known[r] = -1
	most := 0
	for _, l := range s.choices {
		ticks := 1
		if next := behind(s.c, r, l); next.Wants>>s.floor%2 == 1 {
			ticks += s.longest(t, next)
		}
		most = max(most, ticks)
	}
	s.known[r] = most
	return most
}

// rightRides returns all right rides of a car.
func rightRides(c api.Car) []api.Ride {
	var l []api.Ride
	for floor := range api.MaxFloor + 1 {
		for number := range 4 * 3 * 5 * 64 {
			r := api.Ride{Floor: floor, Up: number%2 == 1, Stood: number/2%2 == 1, Doing: number / 4 % 3, Left: number / 12 % 5, Wants: number / 60}
			if refRight(c, r) {
				l = append(l, r)
			}
		}
	}
	return l
}

// reached returns the rides to which any presses lead from the start.
func reached(c api.Car) map[api.Ride]bool {
	all := choices(c, -1)
	first := api.Ride{Floor: c.Start, Up: true}
	found := map[api.Ride]bool{first: true}
	for open := []api.Ride{first}; len(open) > 0; {
		r := open[0]
		open = open[1:]
		for _, l := range all {
			next := behind(c, r, l)
			if !found[next] {
				found[next] = true
				open = append(open, next)
			}
		}
	}
	return found
}

// TestLongestOfAllWays compares Bound of each right ride, and Worst of each floor, with all ways in which floors can be pressed: P7.4 and P7.6.
func TestLongestOfAllWays(t *testing.T) {
	l := []api.Car{{High: 5, Start: 2, Move: 3, Stop: 4}, {High: 4, Start: 4, Move: 2, Stop: 1}, {Low: 1, High: 5, Start: 3, Move: 1, Stop: 3}}
	for _, c := range append(l, allCars(3)...) {
		right, found := rightRides(c), reached(c)
		for floor := c.Low; floor <= c.High; floor++ {
			s := searchFor(c, floor)
			worst := 0
			for _, r := range right {
				if r.Wants>>floor%2 == 0 {
					continue
				}
				want := s.longest(t, r)
				if got, e := calls.Bound(c, r, floor); got != want || e != api.OK {
					t.Fatalf("Bound(%v, %v, %d) = %d, %d, want %d", c, r, floor, got, e, want)
				}
				if found[r] {
					worst = max(worst, want)
				}
			}
			if got, e := calls.Worst(c, floor); got != worst || e != api.OK {
				t.Fatalf("Worst(%v, %d) = %d, %d, want %d", c, floor, got, e, worst)
			}
		}
	}
}

// TestRightRidesAreThese compares which rides Bound accepts with all that are right, near them and far away.
func TestRightRidesAreThese(t *testing.T) {
	r := rand.New(rand.NewSource(101))
	times := map[bool]int{}
	for range 100000 {
		c := anyCar(r)
		ride := api.Ride{Floor: r.Intn(8) - 1, Up: r.Intn(2) == 0, Stood: r.Intn(3) > 0, Doing: r.Intn(5) - 1, Left: r.Intn(6), Wants: r.Intn(64)}
		if r.Intn(2) == 0 {
			ride.Floor, ride.Doing, ride.Left = c.Low+r.Intn(c.High-c.Low+1), 1+r.Intn(2), 1+r.Intn(3)
		}
		if r.Intn(2) == 0 {
			ride.Wants &= 1<<(c.High+1) - 1<<c.Low
		}
		floor := r.Intn(7) - 1
		is := refRight(c, ride) && floor >= c.Low && floor <= c.High && ride.Wants>>floor%2 == 1
		times[is]++
		if _, e := calls.Bound(c, ride, floor); (e == api.OK) != is || !is && e != api.ErrArg {
			t.Fatalf("Bound(%v, %v, %d): %d", c, ride, floor, e)
		}
	}
	if times[true] < 3000 {
		t.Errorf("%d rides are right", times[true])
	}
}

// anyCar draws a valid car.
func anyCar(r *rand.Rand) api.Car {
	l := []int{r.Intn(6), r.Intn(6), r.Intn(6)}
	slices.Sort(l)
	return api.Car{Low: l[0], Start: l[1], High: l[2], Move: 1 + r.Intn(3), Stop: 1 + r.Intn(4)}
}

// anyGroup draws a group.
func anyGroup(r *rand.Rand) []api.Car {
	var g []api.Car
	for range 1 + r.Intn(3) {
		g = append(g, anyCar(r))
	}
	return g
}

// anyPresses draws at most so many presses of floors that some car serves, in so many ticks.
func anyPresses(r *rand.Rand, many, ticks int, g ...api.Car) []api.Press {
	var l []api.Press
	for range r.Intn(many + 1) {
		c := g[r.Intn(len(g))]
		l = append(l, api.Press{At: r.Intn(ticks), Floor: c.Low + r.Intn(c.High-c.Low+1)})
	}
	slices.SortStableFunc(l, func(a, b api.Press) int { return a.At - b.At })
	return l
}

// anyDay draws presses anywhere within the limits, few or many, near together or far apart.
func anyDay(r *rand.Rand, g ...api.Car) []api.Press {
	return anyPresses(r, []int{6, 30, 200}[r.Intn(3)], []int{10, 60, 501}[r.Intn(3)], g...)
}

// refWaits returns the wait of each press, which must be served.
func refWaits(t *testing.T, c api.Car, l []api.Press) []int {
	t.Helper()
	_, served := run(c, l, 700)
	return waited(t, l, served)
}

func waited(t *testing.T, l []api.Press, served []int) []int {
	t.Helper()
	var waits []int
	for number, tick := range served {
		if tick < 0 {
			t.Fatalf("the press %d of %v is not served", number, l)
		}
		waits = append(waits, tick-l[number].At)
	}
	return waits
}

// TestRuns compares Play and Waits with the runs above: P7.2 and P7.3.
func TestRuns(t *testing.T) {
	r := rand.New(rand.NewSource(102))
	for range 3000 {
		c := anyCar(r)
		l := anyDay(r, c)
		ticks := r.Intn(700)
		want, _ := run(c, l, ticks)
		if got, e := calls.Play(c, l, ticks); !slices.Equal(got, want) || e != api.OK {
			t.Fatalf("Play(%v, %v, %d) = %v, %d, want %v", c, l, ticks, got, e, want)
		}
		waits := refWaits(t, c, l)
		if got, e := calls.Waits(c, l); !slices.Equal(got, waits) || e != api.OK {
			t.Fatalf("Waits(%v, %v) = %v, %d, want %v", c, l, got, e, waits)
		}
	}
}

// refLongest returns the longest wait with a share; -1 if it is none.
func refLongest(t *testing.T, g []api.Car, l []api.Press, share []int) int {
	t.Helper()
	longest := 0
	for car, c := range g {
		var own []api.Press
		for number, p := range l {
			if share[number] != car {
				continue
			}
			if p.Floor < c.Low || p.Floor > c.High {
				return -1
			}
			own = append(own, p)
		}
		longest = slices.Max(append(refWaits(t, c, own), longest))
	}
	return longest
}

// TestShares compares Longest and Share with all lists of numbers of cars, counted up: P7.7 and P7.8.
func TestShares(t *testing.T) {
	r := rand.New(rand.NewSource(103))
	for range 150 {
		g := anyGroup(r)
		l := anyPresses(r, 4, 1+r.Intn(20), g...)
		var best []int
		least := 1 << 30
		share := make([]int, len(l))
		for number := 0; number < power(len(g), len(l)); number++ {
			for i, left := len(l)-1, number; i >= 0; i-- {
				share[i], left = left%len(g), left/len(g)
			}
			want := refLongest(t, g, l, share)
			got, e := calls.Longest(g, l, share)
			if want < 0 && (e != api.ErrArg || got != 0) || want >= 0 && (e != api.OK || got != want) {
				t.Fatalf("Longest(%v, %v, %v) = %d, %d, want %d", g, l, share, got, e, want)
			}
			if want >= 0 && want < least {
				best, least = slices.Clone(share), want
			}
		}
		if got, e := calls.Share(g, l); !slices.Equal(got, best) || e != api.OK {
			t.Fatalf("Share(%v, %v) = %v, %d, want %v", g, l, got, e, best)
		}
	}
}

func power(n, times int) int {
	if times == 0 {
		return 1
	}
	return n * power(n, times-1)
}

// TestDivisions compares Divide with all lists of floors that are divisions: P7.9.
func TestDivisions(t *testing.T) {
	r := rand.New(rand.NewSource(104))
	for range 1000 {
		g := anyGroup(r)
		for floors := range 8 {
			var best []int
			least := 1 << 30
			for number := range 6 * 6 * 6 {
				highs := []int{number / 36, number / 6 % 6, number % 6}[3-len(g):]
				if number >= power(6, len(g)) || highs[len(g)-1] != floors-1 || !increases(highs) {
					continue
				}
				if worst := refWorstOf(g, highs); worst < least {
					best, least = highs, worst
				}
			}
			highs, worst, e := calls.Divide(g, floors)
			if best == nil && (e != api.ErrArg || highs != nil || worst != 0) {
				t.Fatalf("Divide(%v, %d) = %v, %d, %d", g, floors, highs, worst, e)
			}
			if best != nil && (e != api.OK || !slices.Equal(highs, best) || worst != least) {
				t.Fatalf("Divide(%v, %d) = %v, %d, %d, want %v, %d", g, floors, highs, worst, e, best, least)
			}
		}
	}
}

func increases(l []int) bool {
	for i := 1; i < len(l); i++ {
		if l[i] <= l[i-1] {
			return false
		}
	}
	return true
}

// refWorstOf returns the greatest wait with a division: at an end of the floors of a car, as P7.13 says.
func refWorstOf(g []api.Car, highs []int) int {
	worst, last := 0, -1
	for car, high := range highs {
		if n := high - last - 1; n > 0 {
			worst = max(worst, 2*n*g[car].Move+(2*n-1)*g[car].Stop)
		}
		last = high
	}
	return worst
}
