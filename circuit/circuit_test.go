package circuit_test

import (
	"math"
	"math/rand"
	"slices"
	"testing"

	"newel/api"
	"newel/circuit"
)

func single(sw int) api.Wire      { return api.Wire{Kind: api.Single, Of: []int{sw}} }
func series(of ...int) api.Wire   { return api.Wire{Kind: api.Series, Of: of} }
func parallel(of ...int) api.Wire { return api.Wire{Kind: api.Parallel, Of: of} }

// combs is the circuit C of the chapter's examples, and rails is CD: hazard 0 is the comb, 1 the handrail.
func combs() api.Circuit {
	return api.Circuit{Hazards: 2, Switches: []int{1, 1, 2}, Wires: []api.Wire{series(1, 2, 3), single(0), single(1), single(2)}}
}

func rails() api.Circuit {
	return api.Circuit{Hazards: 2, Switches: []int{1, 1, 2, 2}, Wires: []api.Wire{series(1, 2, 3, 4), single(0), single(1), single(2), single(3)}}
}

// one is the least circuit: a switch that the only hazard opens.
func one() api.Circuit {
	return api.Circuit{Hazards: 1, Switches: []int{1}, Wires: []api.Wire{single(0)}}
}

// beside has two switches in parallel, which different hazards open.
func beside() api.Circuit {
	return api.Circuit{Hazards: 2, Switches: []int{1, 2}, Wires: []api.Wire{parallel(1, 2), single(0), single(1)}}
}

// wires is a circuit of just these, with one hazard and two switches.
func wires(l ...api.Wire) api.Circuit {
	return api.Circuit{Hazards: 1, Switches: []int{1, 1}, Wires: l}
}

// down is a circuit of so many wires, each in the one before.
func down(many int) api.Circuit {
	c := wires()
	for i := range many - 1 {
		c.Wires = append(c.Wires, api.Wire{Kind: api.Series + i%2, Of: []int{i + 1}})
	}
	c.Wires = append(c.Wires, single(1))
	return c
}

// broad is a circuit with so many wires in one.
func broad(kind, many int) api.Circuit {
	c := wires(api.Wire{Kind: kind})
	for i := range many {
		c.Wires[0].Of = append(c.Wires[0].Of, i+1)
		c.Wires = append(c.Wires, single(0))
	}
	return c
}

func TestCheck(t *testing.T) {
	for i, x := range []struct {
		c    api.Circuit
		want api.Errno
	}{
		{api.Circuit{}, api.ErrCircuit},
		{combs(), api.OK},
		{rails(), api.OK},
		{one(), api.OK},
		{beside(), api.OK},
		{api.Circuit{Hazards: 0, Switches: []int{0}, Wires: []api.Wire{single(0)}}, api.ErrCircuit},
		{api.Circuit{Hazards: 8, Switches: []int{255}, Wires: []api.Wire{single(0)}}, api.OK},
		{api.Circuit{Hazards: 8, Switches: []int{256}, Wires: []api.Wire{single(0)}}, api.ErrCircuit},
		{api.Circuit{Hazards: 9, Switches: []int{1}, Wires: []api.Wire{single(0)}}, api.ErrCircuit},
		{api.Circuit{Hazards: -1, Switches: []int{0}, Wires: []api.Wire{single(0)}}, api.ErrCircuit},
		{api.Circuit{Hazards: math.MaxInt, Switches: []int{0}, Wires: []api.Wire{single(0)}}, api.ErrCircuit},
		{api.Circuit{Hazards: 1, Switches: []int{0}, Wires: []api.Wire{single(0)}}, api.OK},
		{api.Circuit{Hazards: 1, Switches: []int{2}, Wires: []api.Wire{single(0)}}, api.ErrCircuit},
		{api.Circuit{Hazards: 1, Switches: []int{-1}, Wires: []api.Wire{single(0)}}, api.ErrCircuit},
		{api.Circuit{Hazards: 1, Switches: []int{1, 2}, Wires: []api.Wire{single(0)}}, api.ErrCircuit},
		{api.Circuit{Hazards: 1, Wires: []api.Wire{single(0)}}, api.ErrCircuit},
		{api.Circuit{Hazards: 1, Switches: make([]int, 12), Wires: []api.Wire{single(11)}}, api.OK},
		{api.Circuit{Hazards: 1, Switches: make([]int, 13), Wires: []api.Wire{single(0)}}, api.ErrCircuit},
		{wires(), api.ErrCircuit},
		{down(24), api.OK},
		{down(25), api.ErrCircuit},
		{wires(single(1)), api.OK},
		{wires(single(2)), api.ErrCircuit},
		{wires(single(-1)), api.ErrCircuit},
		{wires(api.Wire{Kind: api.Single}), api.ErrCircuit},
		{wires(api.Wire{Kind: api.Single, Of: []int{0, 1}}), api.ErrCircuit},
		{wires(api.Wire{Kind: 0, Of: []int{0}}), api.ErrCircuit},
		{wires(api.Wire{Kind: 0, Of: []int{1}}, single(0)), api.ErrCircuit},
		{wires(api.Wire{Kind: 4, Of: []int{1}}, single(0)), api.ErrCircuit},
		{wires(api.Wire{Kind: -1, Of: []int{1}}, single(0)), api.ErrCircuit},
		{wires(series()), api.ErrCircuit},
		{wires(parallel()), api.ErrCircuit},
		{broad(api.Series, 1), api.OK},
		{broad(api.Series, 8), api.OK},
		{broad(api.Series, 9), api.ErrCircuit},
		{broad(api.Parallel, 8), api.OK},
		{broad(api.Parallel, 9), api.ErrCircuit},
		{wires(series(0)), api.ErrCircuit}, // a wire of itself
		{wires(series(1), series(0)), api.ErrCircuit},
		{wires(series(1), series(1)), api.ErrCircuit},
		{wires(series(1, 2), series(2), single(0)), api.ErrCircuit},      // 2 is in two
		{wires(series(1, 3), parallel(2), single(0), single(1)), api.OK}, // a switch may be in several, a wire in one
		{wires(series(1, 2), single(0), single(0)), api.OK},              // the same switch twice
		{wires(series(1, 1), single(0)), api.ErrCircuit},                 // not strictly ascending
		{wires(series(2, 1), single(0), single(1)), api.ErrCircuit},      // not ascending
		{wires(series(1, 3), single(0), single(1)), api.ErrCircuit},      // no wire 3
		{wires(series(-1), single(0)), api.ErrCircuit},                   // no wire -1
		{wires(series(1), single(0), single(1)), api.ErrCircuit},         // 2 is in none
		{wires(single(0), single(1)), api.ErrCircuit},                    // 1 is in none, though it is a switch of one
		{wires(single(1), single(1)), api.ErrCircuit},                    // Of of a Single names no wire
		{wires(series(1, 2), single(0), single(math.MinInt)), api.ErrCircuit},
	} {
		if e := circuit.Check(x.c); e != x.want {
			t.Errorf("%d: Check(%+v) = %d, want %d", i, x.c, e, x.want)
		}
	}
}

// spoil changes a circuit at one place.
func spoil(r *rand.Rand, c *api.Circuit) {
	w := &c.Wires[r.Intn(len(c.Wires))]
	switch r.Intn(8) {
	case 0:
		c.Hazards = r.Intn(11) - 1
	case 1:
		c.Switches[r.Intn(len(c.Switches))] = r.Intn(1<<c.Hazards+3) - 1
	case 2:
		w.Kind = r.Intn(6) - 1
	case 3:
		w.Of[r.Intn(len(w.Of))] = r.Intn(len(c.Wires)+3) - 1
	case 4:
		w.Of = append(w.Of, r.Intn(len(c.Wires)+1))
	case 5:
		w.Of = w.Of[1:]
	case 6:
		c.Wires = c.Wires[:len(c.Wires)-1]
	case 7:
		c.Switches = c.Switches[1:]
	}
}

func TestCheckIsAsTheTextSays(t *testing.T) {
	r := rand.New(rand.NewSource(1))
	bad := 0
	for range 20000 {
		c := anyCircuit(r, 8, 12, 24)
		if e := circuit.Check(c); e != api.OK {
			t.Fatalf("Check(%+v) = %d", c, e)
		}
		spoil(r, &c)
		want := refCheck(c)
		if e := circuit.Check(c); want != (e == api.OK) || !want && e != api.ErrCircuit {
			t.Fatalf("Check(%+v) = %d, want %v", c, e, want)
		}
		if !want {
			bad++
		}
	}
	if bad < 5000 || bad > 18000 {
		t.Errorf("%d of 20000 are not valid", bad)
	}
}

func TestRuns(t *testing.T) {
	for i, x := range []struct {
		c                     api.Circuit
		hazards, closed, open int
		is                    bool
		want                  api.Errno
	}{
		{combs(), 0, 0, 0, true, api.OK},
		{combs(), 1, 0, 0, false, api.OK},
		{combs(), 1, 1, 0, false, api.OK},
		{combs(), 1, 3, 0, true, api.OK},
		{combs(), 0, 0, 4, false, api.OK},
		{combs(), 3, 3, 0, false, api.OK},
		{combs(), 3, 7, 0, true, api.OK},
		{combs(), 0, 4, 4, false, api.OK}, // in both sets: stuck open
		{combs(), 1, 7, 1, false, api.OK},
		{beside(), 1, 0, 0, true, api.OK},
		{beside(), 3, 0, 0, false, api.OK},
		{beside(), 0, 0, 1, true, api.OK},
		{beside(), 0, 0, 3, false, api.OK},
		{beside(), 3, 2, 1, true, api.OK},
		{down(24), 0, 0, 0, true, api.OK},
		{down(24), 1, 1, 0, false, api.OK},
		{down(24), 1, 2, 0, true, api.OK},
		{combs(), -1, 0, 0, false, api.ErrArg},
		{combs(), 4, 0, 0, false, api.ErrArg},
		{combs(), 0, -1, 0, false, api.ErrArg},
		{combs(), 0, 8, 0, false, api.ErrArg},
		{combs(), 0, 0, -1, false, api.ErrArg},
		{combs(), 0, 0, 8, false, api.ErrArg},
		{combs(), math.MaxInt, 0, 0, false, api.ErrArg},
		{combs(), 0, math.MinInt, 0, false, api.ErrArg},
		{api.Circuit{}, -1, -1, -1, false, api.ErrCircuit},
	} {
		if is, e := circuit.Runs(x.c, x.hazards, x.closed, x.open); is != x.is || e != x.want {
			t.Errorf("%d: Runs(%d, %d, %d) = %v, %d, want %v, %d", i, x.hazards, x.closed, x.open, is, e, x.is, x.want)
		}
	}
}

func TestRunsIsAsTheTableSays(t *testing.T) {
	r := rand.New(rand.NewSource(2))
	runs := 0
	for range 20000 {
		c := anyCircuit(r, 8, 12, 24)
		hazards, closed, open := r.Intn(1<<c.Hazards), r.Intn(1<<len(c.Switches)), r.Intn(1<<len(c.Switches))
		if r.Intn(2) == 0 {
			open = 0
		}
		want := refConducts(c, 0, list(hazards), list(closed), list(open))
		if is, e := circuit.Runs(c, hazards, closed, open); is != want || e != api.OK {
			t.Fatalf("Runs(%+v, %d, %d, %d) = %v, %d", c, hazards, closed, open, is, e)
		}
		if want {
			runs++
		}
	}
	if runs < 2000 || runs > 18000 {
		t.Errorf("%d of 20000 run", runs)
	}
}

func TestWeak(t *testing.T) {
	for i, x := range []struct {
		c      api.Circuit
		closed int
		want   []int
		e      api.Errno
	}{
		{combs(), 0, nil, api.OK},
		{combs(), 3, []int{0}, api.OK},
		{combs(), 4, []int{1}, api.OK},
		{combs(), 7, []int{0, 1}, api.OK},
		{beside(), 0, []int{0, 1}, api.OK},
		{combs(), -1, nil, api.ErrArg},
		{combs(), 8, nil, api.ErrArg},
		{api.Circuit{}, -1, nil, api.ErrCircuit},
	} {
		if l, e := circuit.Weak(x.c, x.closed); !slices.Equal(l, x.want) || e != x.e {
			t.Errorf("%d: Weak(%d) = %v, %d, want %v, %d", i, x.closed, l, e, x.want, x.e)
		}
	}
}

func TestCriticalAndPairs(t *testing.T) {
	for i, x := range []struct {
		c        api.Circuit
		critical []int
		pairs    [][2]int
		e        api.Errno
	}{
		{combs(), []int{2}, [][2]int{{0, 1}}, api.OK},
		{rails(), nil, [][2]int{{0, 1}, {2, 3}}, api.OK},
		{one(), []int{0}, nil, api.OK},
		{beside(), []int{0, 1}, nil, api.OK}, // the empty set is dangerous
		{wires(series(1, 2), single(0), single(1)), nil, [][2]int{{0, 1}}, api.OK},
		{wires(parallel(1, 2), single(0), single(1)), []int{0, 1}, nil, api.OK},
		{api.Circuit{}, nil, nil, api.ErrCircuit},
	} {
		if l, e := circuit.Critical(x.c); !slices.Equal(l, x.critical) || e != x.e {
			t.Errorf("%d: Critical = %v, %d, want %v, %d", i, l, e, x.critical, x.e)
		}
		if l, e := circuit.Pairs(x.c); !slices.Equal(l, x.pairs) || e != x.e {
			t.Errorf("%d: Pairs = %v, %d, want %v, %d", i, l, e, x.pairs, x.e)
		}
	}
}

func TestLeast(t *testing.T) {
	twoOfThree := api.Circuit{Hazards: 2, Switches: []int{1, 1, 1, 0}, Wires: []api.Wire{parallel(1, 4), series(2, 3), single(0), single(1), single(2)}}
	for i, x := range []struct {
		c            api.Circuit
		hazard, want int
		e            api.Errno
	}{
		{combs(), 0, 3, api.OK},
		{combs(), 1, 4, api.OK},
		{rails(), 0, 3, api.OK},
		{rails(), 1, 12, api.OK},
		{beside(), 0, 0, api.OK},   // it runs with nothing stuck
		{twoOfThree, 0, 4, api.OK}, // one switch, though the set of two has a lesser number
		{twoOfThree, 1, 0, api.OK}, // a hazard that opens none
		{down(24), 0, 2, api.OK},   // the switch 0 is in no wire
		{combs(), -1, 0, api.ErrArg},
		{combs(), 2, 0, api.ErrArg},
		{combs(), math.MinInt, 0, api.ErrArg},
		{api.Circuit{}, -1, 0, api.ErrCircuit},
	} {
		if n, e := circuit.Least(x.c, x.hazard); n != x.want || e != x.e {
			t.Errorf("%d: Least(%d) = %d, %d, want %d, %d", i, x.hazard, n, e, x.want, x.e)
		}
	}
}

func TestWhatIsDangerousIsAsTheTextSays(t *testing.T) {
	r := rand.New(rand.NewSource(3))
	pairs, several := 0, 0
	for range 3000 {
		c := anyCircuit(r, 8, 8, 24)
		closed := r.Intn(1 << len(c.Switches))
		if l, e := circuit.Weak(c, closed); e != api.OK || !slices.Equal(l, refWeak(c, list(closed))) {
			t.Fatalf("Weak(%+v, %d) = %v, %d", c, closed, l, e)
		}
		if l, e := circuit.Critical(c); e != api.OK || !slices.Equal(l, refCritical(c)) {
			t.Fatalf("Critical(%+v) = %v, %d", c, l, e)
		}
		l, e := circuit.Pairs(c)
		if e != api.OK || !slices.Equal(l, refPairs(c)) {
			t.Fatalf("Pairs(%+v) = %v, %d", c, l, e)
		}
		hazard := r.Intn(c.Hazards)
		n, e := circuit.Least(c, hazard)
		if e != api.OK || n != refLeast(c, hazard) {
			t.Fatalf("Least(%+v, %d) = %d, %d", c, hazard, n, e)
		}
		pairs += len(l)
		several += len(list(n)) / 2
	}
	if pairs < 100 || several < 100 {
		t.Errorf("%d pairs, %d times several switches", pairs, several)
	}
}
