package calls_test

import (
	"math"
	"math/rand"
	"reflect"
	"slices"
	"testing"

	"newel/api"
	"newel/calls"
)

// input is what all functions together take.
type input struct {
	c                    api.Car
	g                    []api.Car
	l                    []api.Press // of the car
	of                   []api.Press // of the group
	ticks, floor, floors int
	ride                 api.Ride
	share                []int
}

// errorsOf calls all functions; a result beside an error counts as an error of its own.
func errorsOf(x input) map[string]api.Errno {
	out := map[string]api.Errno{}
	put := func(name string, e api.Errno, zero bool) {
		if e != api.OK && !zero {
			e = -1
		}
		out[name] = e
	}
	put("Check", calls.Check(x.c, x.l), true)
	rides, e := calls.Play(x.c, x.l, x.ticks)
	put("Play", e, len(rides) == 0)
	list, e := calls.Waits(x.c, x.l)
	put("Waits", e, len(list) == 0)
	n, e := calls.Worst(x.c, x.floor)
	put("Worst", e, n == 0)
	l, e := calls.Witness(x.c, x.floor)
	put("Witness", e, len(l) == 0)
	n, e = calls.Bound(x.c, x.ride, x.floor)
	put("Bound", e, n == 0)
	list, e = calls.Share(x.g, x.of)
	put("Share", e, len(list) == 0)
	n, e = calls.Longest(x.g, x.of, x.share)
	put("Longest", e, n == 0)
	list, n, e = calls.Divide(x.g, x.floors)
	put("Divide", e, len(list) == 0 && n == 0)
	return out
}

// TestOrderOfErrors: everything is wrong in the first input, and one thing less in each one that follows.
func TestOrderOfErrors(t *testing.T) {
	x := input{l: pressed(9, 9), of: slices.Repeat(pressed(9, 9), 7), ticks: -1, floor: 9, floors: 9, ride: rests(9, true, true)}
	want := map[string]api.Errno{}
	set := func(e api.Errno, names ...string) {
		for _, name := range names {
			want[name] = e
		}
	}
	expect := func() {
		t.Helper()
		for name, e := range errorsOf(x) {
			if e != want[name] {
				t.Errorf("%s: %d, want %d", name, e, want[name])
			}
		}
	}
	set(api.ErrCar, "Check", "Play", "Waits", "Worst", "Witness", "Bound", "Share", "Longest", "Divide")
	expect()
	x.c = car()
	set(api.ErrPress, "Check", "Play", "Waits")
	set(api.ErrArg, "Worst", "Witness", "Bound")
	expect()
	x.g = group()
	set(api.ErrPress, "Share", "Longest")
	set(api.ErrArg, "Divide")
	expect()
	x.l, x.of = example(), slices.Repeat(pressed(1, 9), 7)
	set(api.OK, "Check", "Waits")
	set(api.ErrArg, "Play", "Longest")
	set(api.ErrMany, "Share")
	expect()
	x.floor, x.ticks, x.floors = 2, 3, 3
	set(api.OK, "Worst", "Witness", "Play", "Divide")
	expect()
	x.of, x.share = x.of[1:], make([]int, 6)
	set(api.OK, "Share", "Longest")
	expect()
	x.ride = stands(2, true, 1, 1)
	expect()
	x.floor = 0
	set(api.OK, "Bound")
	expect()
}

// anyInput draws arguments most of which are nearly valid.
func anyInput(r *rand.Rand) input {
	limited := []int{math.MinInt, -2, -1, 0, 1, 2, 3, 4, 5, 6, 7, 63, 64, 200, 201, 500, 501, 1000, 1001, math.MaxInt}
	wrong := func() int { return limited[r.Intn(len(limited))] }
	any := func(n int) int {
		if r.Intn(20) == 0 {
			return wrong()
		}
		return r.Intn(n)
	}
	x := input{c: anyCar(r), g: anyGroup(r), floor: any(6), floors: any(7), ticks: any(50)}
	x.l, x.of = anyDay(r, x.c), anyPresses(r, 6, 500, x.g...)
	if r.Intn(10) == 0 {
		x.of = anyDay(r, x.g...)
	}
	for range x.of {
		x.share = append(x.share, any(len(x.g)))
	}
	x.ride = api.Ride{Floor: any(6), Up: r.Intn(2) == 0, Stood: true, Doing: any(3), Left: any(3), Wants: any(64)}
	if rides, _ := calls.Play(x.c, x.l, 50); r.Intn(4) > 0 {
		x.ride = rides[r.Intn(len(rides))]
	}
	numbers := []*int{&x.c.Low, &x.c.High, &x.c.Start, &x.c.Move, &x.c.Stop, &x.g[0].Low, &x.g[0].High, &x.g[0].Start, &x.g[0].Move, &x.g[0].Stop,
		&x.ride.Floor, &x.ride.Doing, &x.ride.Left, &x.ride.Wants}
	for _, l := range [][]api.Press{x.l, x.of} {
		if len(l) > 0 {
			p := &l[r.Intn(len(l))]
			numbers = append(numbers, &p.At, &p.Floor)
		}
	}
	switch r.Intn(5) {
	case 0:
		*numbers[r.Intn(len(numbers))] = wrong()
	case 1:
		x.g = append(x.g, slices.Repeat(x.g[:1], r.Intn(4))...)
	case 2:
		x.share = append(x.share, 0)[r.Intn(2):]
	}
	return x
}

// copied returns an input that shares no memory with another one.
func copied(x input) input {
	x.g, x.l, x.of, x.share = slices.Clone(x.g), slices.Clone(x.l), slices.Clone(x.of), slices.Clone(x.share)
	return x
}

// TestAnyArguments: whatever the arguments are, no function panics, changes them, or returns something beside an error, and the errors of
// all functions fit together.
func TestAnyArguments(t *testing.T) {
	r := rand.New(rand.NewSource(112))
	times := map[api.Errno]int{}
	for range 3000 {
		x := anyInput(r)
		before := copied(x)
		errors := errorsOf(x)
		if !reflect.DeepEqual(x, before) {
			t.Fatalf("%v is changed to %v", before, x)
		}
		isCar, isGroup := errors["Check"] != api.ErrCar, errors["Divide"] != api.ErrCar
		for name, e := range errors {
			valid := isCar
			if name == "Share" || name == "Longest" || name == "Divide" {
				valid = isGroup
			}
			if e < 0 || (e == api.ErrCar) == valid {
				t.Fatalf("%s(%v): %d", name, x, e)
			}
			times[e]++
		}
		if e := errors["Check"]; errors["Waits"] != e || e != api.OK && errors["Play"] != e || errors["Worst"] != errors["Witness"] {
			t.Fatalf("%v: %v", x, errors)
		}
		if (errors["Share"] == api.ErrPress) != (errors["Longest"] == api.ErrPress) {
			t.Fatalf("%v: %v", x, errors)
		}
	}
	for _, e := range []api.Errno{api.OK, api.ErrArg, api.ErrMany, api.ErrCar, api.ErrPress} {
		if times[e] < 100 {
			t.Errorf("the error %d came %d times", e, times[e])
		}
	}
}

// TestResultsAreNew is R4: what is done with a result changes no later one, nor an argument.
func TestResultsAreNew(t *testing.T) {
	g, l, share := group(), pressed(2, 0, 1, 0), []int{1, 0}
	for range 2 {
		rides, _ := calls.Play(car(), l, 1)
		waits, _ := calls.Waits(car(), l)
		witness, _ := calls.Witness(car(), 1)
		best, _ := calls.Share(g, l)
		highs, _, _ := calls.Divide(g, 3)
		if n, e := calls.Longest(g, l, share); n != 1 || e != api.OK {
			t.Errorf("Longest = %d, %d", n, e)
		}
		if rides[0] != moves(0, true, false, 1, 6) || !slices.Equal(waits, []int{3, 1}) || witness[0].Floor != 1 {
			t.Errorf("Play = %v, Waits = %v, Witness = %v", rides, waits, witness)
		}
		if !slices.Equal(best, share) || !slices.Equal(highs, []int{1, 2}) {
			t.Errorf("Share = %v, Divide = %v", best, highs)
		}
		rides[0], waits[0], witness[0], best[0], highs[0] = api.Ride{}, 9, api.Press{Floor: 9}, 9, 9
	}
	if !slices.Equal(g, group()) || !slices.Equal(l, pressed(2, 0, 1, 0)) || !slices.Equal(share, []int{1, 0}) {
		t.Errorf("the arguments are %v, %v, %v now", g, l, share)
	}
}
