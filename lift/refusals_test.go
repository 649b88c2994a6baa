package lift_test

import (
	"math"
	"math/rand"
	"reflect"
	"slices"
	"testing"

	"newel/api"
	"newel/lift"
)

// input is what all functions together take.
type input struct {
	l                                       api.Lift
	d                                       api.Door
	height, load, accel, from, to, ticks, n int
	heights, loads                          api.Span
	list, breaks                            []int
}

// errorsOf calls all functions; a result beside an error counts as an error of its own.
func errorsOf(x input) map[string]api.Errno {
	out := map[string]api.Errno{}
	put := func(name string, e api.Errno, zero bool) {
		if e != api.OK && !zero {
			e = -1
		}
		out[name] = e
	}
	put("Check", lift.Check(x.l), true)
	a, b, e := lift.Sides(x.l, x.height, x.load)
	put("Sides", e, a == 0 && b == 0)
	is, e := lift.Slips(x.l, x.height, x.load, x.accel)
	put("Slips", e, !is)
	a, e = lift.Grip(x.l, x.heights, x.loads)
	put("Grip", e, a == 0)
	a, b, e = lift.Balance(x.l, x.loads)
	put("Balance", e, a == 0 && b == 0)
	a, e = lift.Sink(x.l, x.from, x.load, x.load)
	put("Sink", e, a == 0)
	l, m, e := lift.Levels(x.l, x.from, x.list)
	put("Levels", e, len(l) == 0 && len(m) == 0)
	a, e = lift.Reach(x.l, x.ticks)
	put("Reach", e, a == 0)
	l, e = lift.Trip(x.l, x.from, x.to)
	put("Trip", e, len(l) == 0)
	l, e = lift.Doors(x.d, x.breaks)
	put("Doors", e, len(l) == 0)
	a, e = lift.Dwell(x.d, x.n)
	put("Dwell", e, a == 0)
	a, e = lift.Turn(x.l, x.d, x.from, x.to, x.n)
	put("Turn", e, a == 0)
	return out
}

// TestOrderOfErrors: everything is wrong in the first input, and one thing less in each one that follows.
func TestOrderOfErrors(t *testing.T) {
	x := input{height: -1, load: -1, accel: -1, from: 9, to: 9, ticks: -1, n: -1, heights: span(-1, 0), loads: span(-1, 0), breaks: []int{-1}}
	want := map[string]api.Errno{}
	set := func(e api.Errno, names ...string) {
		for _, name := range names {
			want[name] = e
		}
	}
	expect := func() {
		t.Helper()
		for name, e := range errorsOf(x) {
			if e != want[name] {
				t.Errorf("%s: %d, want %d", name, e, want[name])
			}
		}
	}
	set(api.ErrLift, "Check", "Sides", "Slips", "Grip", "Balance", "Sink", "Levels", "Reach", "Trip", "Turn")
	set(api.ErrDoor, "Doors", "Dwell")
	expect()
	x.l = l()
	set(api.OK, "Check")
	set(api.ErrArg, "Sides", "Slips", "Grip", "Balance", "Sink", "Levels", "Reach", "Trip")
	set(api.ErrDoor, "Turn")
	expect()
	x.d = door(3, 2)
	set(api.ErrArg, "Doors", "Dwell", "Turn")
	expect()
	x.height, x.from, x.heights, x.breaks = 0, 0, span(0, 90), nil
	set(api.OK, "Doors")
	expect()
	x.load, x.to, x.loads, x.ticks = 600, 1, span(0, 800), 1
	set(api.OK, "Sides", "Sink", "Balance", "Trip", "Reach")
	set(api.ErrNone, "Grip")
	expect()
	x.accel, x.n, x.list, x.heights, x.loads = 0, 1, []int{1}, span(0, 40), span(300, 600)
	set(api.OK, "Slips", "Dwell", "Turn", "Levels", "Grip")
	expect()
}

// anyInput draws arguments most of which are nearly valid.
func anyInput(r *rand.Rand) input {
	limited := []int{math.MinInt, -1, 0, 1, 16, 20, 60, 100, 101, 1000, 1001, 100000, 100001, math.MaxInt}
	any := func(n int) int {
		if r.Intn(20) == 0 {
			return limited[r.Intn(len(limited))]
		}
		return r.Intn(n + 1)
	}
	x := input{l: anyLargeLift(r), d: door(1+any(api.MaxWide-1), any(api.MaxWait))}
	x.height, x.load, x.accel = any(highest(x.l)), any(x.l.Rated), any(999)
	x.from, x.to, x.ticks, x.n = any(len(x.l.Floors)-1), any(len(x.l.Floors)-1), any(1000), any(20)
	x.heights, x.loads = anySpan(r, highest(x.l)), anySpan(r, x.l.Rated)
	for range any(30) % 100 {
		x.list, x.breaks = append(x.list, any(x.l.Rated)), append(x.breaks, any(300))
	}
	slices.Sort(x.breaks)
	x.breaks = slices.Compact(x.breaks)
	numbers := []*int{&x.l.Car, &x.l.Counter, &x.l.Rated, &x.l.Rope, &x.l.Num, &x.l.Den, &x.l.Speed, &x.l.Accel, &x.l.Over, &x.l.Stiff,
		&x.l.Level, &x.heights.Low, &x.heights.High, &x.loads.Low, &x.loads.High, &x.l.Floors[r.Intn(len(x.l.Floors))]}
	if r.Intn(3) == 0 {
		*numbers[r.Intn(len(numbers))] = limited[r.Intn(len(limited))]
	}
	return x
}

// TestAnyArguments: whatever the arguments are, no function panics, changes them, or returns something beside an error, and the errors of all functions fit together.
func TestAnyArguments(t *testing.T) {
	r := rand.New(rand.NewSource(67))
	times := map[api.Errno]int{}
	for range 10000 {
		x := anyInput(r)
		before := x
		before.l.Floors, before.list, before.breaks = slices.Clone(x.l.Floors), slices.Clone(x.list), slices.Clone(x.breaks)
		errors := errorsOf(x)
		if !reflect.DeepEqual(x, before) {
			t.Fatalf("%v is changed to %v", before, x)
		}
		first := errors["Check"]
		for name, e := range errors {
			door := name == "Doors" || name == "Dwell"
			if e < 0 || !door && first != api.OK && e != first || door && e == api.ErrLift || first == api.OK && e == api.ErrLift {
				t.Fatalf("%s(%v): %d", name, x, e)
			}
			times[e]++
		}
		if e := errors["Turn"]; e == api.OK && (errors["Trip"] != e || errors["Dwell"] != e) || e == api.ErrDoor && errors["Dwell"] != e {
			t.Fatalf("%v: %v", x, errors)
		}
	}
	for _, e := range []api.Errno{api.OK, api.ErrArg, api.ErrNone, api.ErrLift, api.ErrDoor} {
		if times[e] < 500 {
			t.Errorf("the error %d came %d times", e, times[e])
		}
	}
}

// TestResultsAreNew is R4: what is done with a result changes no later one, nor an argument.
func TestResultsAreNew(t *testing.T) {
	x, loads, breaks := l(), []int{0, 100, 300, 250}, []int{4}
	for range 2 {
		off, again, _ := lift.Levels(x, 0, loads)
		if !slices.Equal(off, []int{0, 10, 0, -5}) || !slices.Equal(again, []int{2}) {
			t.Errorf("Levels = %v, %v", off, again)
		}
		trip, _ := lift.Trip(x, 0, 1)
		if !slices.Equal(trip, []int{3, 6, 9, 10, 7, 4, 1}) {
			t.Errorf("Trip = %v", trip)
		}
		open, _ := lift.Doors(door(3, 2), breaks)
		if !slices.Equal(open, []int{1, 2, 3, 3, 3, 3, 2, 1, 0}) {
			t.Errorf("Doors = %v", open)
		}
		off[0], again[0], trip[0], open[0] = 9, 9, 9, 9
	}
	if !reflect.DeepEqual(x, l()) || !slices.Equal(loads, []int{0, 100, 300, 250}) || !slices.Equal(breaks, []int{4}) {
		t.Errorf("the arguments are %v, %v, %v now", x, loads, breaks)
	}
}
