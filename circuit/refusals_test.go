package circuit_test

import (
	"math"
	"math/rand"
	"reflect"
	"slices"
	"testing"

	"newel/api"
	"newel/circuit"
)

// input is what all functions together take.
type input struct {
	c                                  api.Circuit
	l                                  []api.Trial
	r                                  api.Rota
	u                                  []api.Upset
	hazards, closed, open, number, gap int
}

// errorsOf calls all functions; a result beside an error counts as an error of its own.
func errorsOf(x input) map[string]api.Errno {
	out := map[string]api.Errno{}
	put := func(name string, e api.Errno, zero bool) {
		if e != api.OK && !zero {
			e = -1
		}
		out[name] = e
	}
	put("Check", circuit.Check(x.c), true)
	is, e := circuit.Runs(x.c, x.hazards, x.closed, x.open)
	put("Runs", e, !is)
	l, e := circuit.Weak(x.c, x.closed)
	put("Weak", e, len(l) == 0)
	l, e = circuit.Critical(x.c)
	put("Critical", e, len(l) == 0)
	pairs, e := circuit.Pairs(x.c)
	put("Pairs", e, len(pairs) == 0)
	n, e := circuit.Least(x.c, x.number)
	put("Least", e, n == 0)
	l, e = circuit.Shows(x.c, x.l, x.number)
	put("Shows", e, len(l) == 0)
	l, e = circuit.Blind(x.c, x.l)
	put("Blind", e, len(l) == 0)
	l, e = circuit.Fewest(x.c, x.l)
	put("Fewest", e, len(l) == 0)
	sw, night, is, e := circuit.CheckRota(x.c, x.l, x.r)
	put("CheckRota", e, sw == 0 && night == 0 && !is)
	l, e = circuit.Rota(x.c, x.l, x.number, x.gap)
	put("Rota", e, len(l) == 0)
	stuck, passed, e := circuit.Play(x.c, x.l, x.r, x.u)
	put("Play", e, len(stuck)+len(passed) == 0)
	return out
}

// TestOrderOfErrors: everything is wrong in the first input, and one thing less in each one that follows.
func TestOrderOfErrors(t *testing.T) {
	x := input{l: make([]api.Trial, 13), r: api.Rota{}, u: []api.Upset{{}}, hazards: -1, closed: -1, open: -1, number: -1, gap: -1}
	x.l[0].Wire = -1
	expect := func(want map[string]api.Errno) {
		t.Helper()
		for name, e := range errorsOf(x) {
			if e != want[name] {
				t.Errorf("%s: %d, want %d", name, e, want[name])
			}
		}
	}
	want := map[string]api.Errno{}
	set := func(e api.Errno, names ...string) {
		for _, name := range names {
			want[name] = e
		}
	}
	set(api.ErrCircuit, "Check", "Runs", "Weak", "Critical", "Pairs", "Least", "Shows", "Blind", "Fewest", "CheckRota", "Rota", "Play")
	expect(want)
	x.c = combs()
	set(api.OK, "Check", "Critical", "Pairs")
	set(api.ErrArg, "Runs", "Weak", "Least")
	set(api.ErrMany, "Shows", "Blind", "Fewest", "CheckRota", "Rota", "Play")
	expect(want)
	x.l = x.l[:12]
	set(api.ErrTrial, "Shows", "Blind", "Fewest", "CheckRota", "Rota", "Play")
	expect(want)
	x.l = x.l[1:]
	set(api.OK, "Blind", "Fewest")
	set(api.ErrArg, "Shows", "Rota")
	set(api.ErrRota, "CheckRota", "Play")
	expect(want)
	x.r = nights(1, nil)
	set(api.OK, "CheckRota")
	set(api.ErrUpset, "Play")
	expect(want)
	x.u, x.number, x.gap = nil, 60, 1
	set(api.OK, "Play")
	set(api.ErrMany, "Rota")
	expect(want)
	x.number = 1
	set(api.OK, "Shows", "Least")
	set(api.ErrNone, "Rota")
	expect(want)
	x.hazards, x.closed, x.open = 0, 0, 0
	x.l = []api.Trial{{Hazards: 3}, {Hazards: 1, Wire: 1}}
	set(api.OK, "Runs", "Weak")
	expect(want)
}

func TestTrialsThatAreNotValid(t *testing.T) {
	for i, x := range []struct {
		l []api.Trial
		e api.Errno
	}{
		{nil, api.OK},
		{make([]api.Trial, 12), api.OK},
		{make([]api.Trial, 13), api.ErrMany},
		{slices.Repeat([]api.Trial{{Hazards: -1}}, 13), api.ErrMany},
		{slices.Repeat([]api.Trial{{Hazards: -1}}, 12), api.ErrTrial},
		{[]api.Trial{{Hazards: 3, Wire: 3}}, api.OK},
		{[]api.Trial{{Hazards: 4}}, api.ErrTrial},
		{[]api.Trial{{Hazards: -1}}, api.ErrTrial},
		{[]api.Trial{{Wire: 4}}, api.ErrTrial},
		{[]api.Trial{{Wire: -1}}, api.ErrTrial},
		{[]api.Trial{{Hazards: math.MaxInt, Wire: math.MinInt}}, api.ErrTrial},
		{append(four(), api.Trial{Wire: 4}), api.ErrTrial},
	} {
		errors := errorsOf(input{c: combs(), l: x.l, r: nights(1, nil), number: -1})
		for _, name := range []string{"Blind", "Fewest", "CheckRota", "Play"} {
			if errors[name] != x.e {
				t.Errorf("%d: %s(%v): %d, want %d", i, name, x.l, errors[name], x.e)
			}
		}
		for _, name := range []string{"Shows", "Rota"} {
			if e := errors[name]; e != x.e && (x.e != api.OK || e != api.ErrArg) {
				t.Errorf("%d: %s(%v): %d, want %d", i, name, x.l, e, x.e)
			}
		}
	}
}

// anyInput draws arguments most of which are nearly valid.
func anyInput(r *rand.Rand) input {
	limits := []int{math.MinInt, -1, 0, 1, 2, 3, 4, 7, 8, 9, 11, 12, 13, 23, 24, 25, 40, 59, 60, 61, 255, 256, 1000, 1001, 4095, 4096, math.MaxInt}
	any := func(n int) int {
		if r.Intn(12) == 0 {
			return limits[r.Intn(len(limits))]
		}
		return r.Intn(max(1, n))
	}
	c := anyCircuit(r, 8, 12, 24)
	if r.Intn(3) == 0 {
		spoil(r, &c)
	}
	x := input{c: c, l: anyTrials(r, anyCircuit(r, 8, 12, 24), 14), hazards: any(4), closed: any(16), open: any(16), number: any(5), gap: any(9)}
	if circuit.Check(c) == api.OK {
		x.l = anyTrials(r, c, 13)
		x.u = anyUpsets(r, c, 42, 5)
	}
	if len(x.l) > 0 && r.Intn(6) == 0 {
		x.l[r.Intn(len(x.l))] = api.Trial{Hazards: any(300), Wire: any(30)}
	}
	x.r = anyRota(r, len(x.l), 8)
	if r.Intn(4) == 0 {
		x.r.Gap = any(3)
		x.r.Nights[0] = []int{any(3), any(12)}
	}
	if len(x.u) > 0 && r.Intn(4) == 0 {
		x.u[r.Intn(len(x.u))] = api.Upset{Night: any(20), Kind: any(4), Number: any(12)}
	}
	return x
}

// copyOf shares no memory with x.
func copyOf(x input) input {
	y := x
	y.c.Switches = slices.Clone(x.c.Switches)
	y.c.Wires = slices.Clone(x.c.Wires)
	for i, w := range x.c.Wires {
		y.c.Wires[i].Of = slices.Clone(w.Of)
	}
	y.l, y.u = slices.Clone(x.l), slices.Clone(x.u)
	y.r.Nights = slices.Clone(x.r.Nights)
	for i, n := range x.r.Nights {
		y.r.Nights[i] = slices.Clone(n)
	}
	return y
}

// TestAnyArguments: whatever the arguments are, no function panics, changes them, or returns something beside an error, and the errors of all functions fit together.
func TestAnyArguments(t *testing.T) {
	r := rand.New(rand.NewSource(41))
	times := map[api.Errno]int{}
	for range 4000 {
		x := anyInput(r)
		before := copyOf(x)
		errors := errorsOf(x)
		if !reflect.DeepEqual(x, before) {
			t.Fatalf("%+v is changed to %+v", before, x)
		}
		first := errors["Check"]
		for name, e := range errors {
			if e < 0 || first != api.OK && e != first || first == api.OK && e == api.ErrCircuit {
				t.Fatalf("%s(%+v): %d", name, x, e)
			}
			times[e]++
		}
		for _, name := range []string{"Shows", "Fewest", "CheckRota", "Rota", "Play"} {
			if e := errors["Blind"]; e != api.OK && errors[name] != e {
				t.Fatalf("%s(%+v): %d, but Blind: %d", name, x, errors[name], e)
			}
		}
		if e := errors["CheckRota"]; e != api.OK && errors["Play"] != e {
			t.Fatalf("Play(%+v): %d, but CheckRota: %d", x, errors["Play"], e)
		}
	}
	for _, e := range []api.Errno{api.OK, api.ErrArg, api.ErrMany, api.ErrNone, api.ErrCircuit, api.ErrTrial, api.ErrRota, api.ErrUpset} {
		if times[e] < 50 {
			t.Errorf("the error %d came %d times", e, times[e])
		}
	}
}

// TestResultsAreNew is R4: what is done with a result changes no later one.
func TestResultsAreNew(t *testing.T) {
	spoilt := func(l []int, e api.Errno) []int {
		for i := range l {
			l[i] = -7
		}
		return l
	}
	c, l := combs(), four()
	for range 2 {
		if w, _ := circuit.Weak(c, 7); !slices.Equal(w, []int{0, 1}) || len(spoilt(w, 0)) != 2 {
			t.Errorf("Weak = %v", w)
		}
		pairs, _ := circuit.Pairs(c)
		if !slices.Equal(pairs, [][2]int{{0, 1}}) {
			t.Errorf("Pairs = %v", pairs)
		}
		pairs[0] = [2]int{}
		if f, _ := circuit.Fewest(c, l); !slices.Equal(f, []int{0, 1, 3}) || len(spoilt(f, 0)) != 3 {
			t.Errorf("Fewest = %v", f)
		}
		if f, _ := circuit.Rota(c, l, 3, 3); !slices.Equal(f, []int{0, 1, 3}) || len(spoilt(f, 0)) != 3 {
			t.Errorf("Rota = %v", f)
		}
	}
	if !reflect.DeepEqual(c, combs()) || !slices.Equal(l, four()) {
		t.Errorf("the circuit is %v now, the trials are %v", c, l)
	}
}
