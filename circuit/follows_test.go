package circuit_test

import (
	"math/bits"
	"math/rand"
	"slices"
	"testing"

	"newel/api"
	"newel/circuit"
	"newel/drive"
)

// safeCircuit draws a circuit of which no switch is critical: any one of which that is so, or one with two switches for each hazard, all in series.
func safeCircuit(t *testing.T, r *rand.Rand) api.Circuit {
	t.Helper()
	for range 1000 {
		c := anyCircuit(r, 4, 10, 16)
		if r.Intn(2) == 0 {
			c = api.Circuit{Hazards: 1 + r.Intn(4), Wires: []api.Wire{{Kind: api.Series}}}
			for sw := range 2 * c.Hazards {
				c.Switches = append(c.Switches, 1<<(sw/2)|r.Intn(1<<c.Hazards))
				c.Wires[0].Of = append(c.Wires[0].Of, sw+1)
				c.Wires = append(c.Wires, single(sw))
			}
		}
		if l, e := circuit.Critical(c); e == api.OK && len(l) == 0 {
			return c
		}
	}
	t.Fatal("in all circuits some switch is critical")
	return api.Circuit{}
}

// part draws a subset.
func part(r *rand.Rand, set int) int { return set & int(r.Uint32()) }

// TestFewerHazards is P3.12.
func TestFewerHazards(t *testing.T) {
	r := rand.New(rand.NewSource(31))
	ran := 0
	for range 20000 {
		c := anyCircuit(r, 8, 12, 24)
		hazards, closed, open := r.Intn(1<<c.Hazards), r.Intn(1<<len(c.Switches)), part(r, r.Intn(1<<len(c.Switches)))
		if is, _ := circuit.Runs(c, hazards, closed, open); !is {
			continue
		}
		ran++
		hazards, closed, open = part(r, hazards), closed|r.Intn(1<<len(c.Switches)), part(r, open)
		if is, e := circuit.Runs(c, hazards, closed, open); !is || e != api.OK {
			t.Fatalf("Runs(%+v, %d, %d, %d) = %v, %d", c, hazards, closed, open, is, e)
		}
	}
	if ran < 2000 {
		t.Errorf("it ran %d times", ran)
	}
}

// TestNoSingleFault is P3.13.
func TestNoSingleFault(t *testing.T) {
	r := rand.New(rand.NewSource(32))
	for range 500 {
		c := safeCircuit(t, r)
		for sw := range c.Switches {
			for hazards := range 1<<c.Hazards - 1 {
				open := r.Intn(1 << len(c.Switches))
				for _, open := range []int{0, open} {
					if is, e := circuit.Runs(c, hazards+1, 1<<sw, open); is || e != api.OK {
						t.Fatalf("Runs(%+v, %d, %d, %d) = %v, %d", c, hazards+1, 1<<sw, open, is, e)
					}
				}
			}
		}
	}
}

// TestTwoSwitches is P3.14.
func TestTwoSwitches(t *testing.T) {
	r := rand.New(rand.NewSource(33))
	for range 1000 {
		c := anyCircuit(r, 4, 8, 16)
		if r.Intn(2) == 0 {
			c = safeCircuit(t, r)
		}
		critical, _ := circuit.Critical(c)
		pairs, _ := circuit.Pairs(c)
		for b := range c.Switches {
			for a := range b {
				weak, e := circuit.Weak(c, 1<<a|1<<b)
				told := slices.Contains(critical, a) || slices.Contains(critical, b) || slices.Contains(pairs, [2]int{a, b})
				if told != (len(weak) > 0) || e != api.OK {
					t.Fatalf("Weak(%+v) of %d and %d = %v, %d, but Critical = %v, Pairs = %v", c, a, b, weak, e, critical, pairs)
				}
			}
		}
	}
}

// TestNoFewerSwitches is P3.15, with all twelve switches.
func TestNoFewerSwitches(t *testing.T) {
	r := rand.New(rand.NewSource(34))
	for range 60 {
		c := anyCircuit(r, 8, 1, 24)
		for len(c.Switches) < 12 {
			c.Switches = append(c.Switches, r.Intn(1<<c.Hazards))
		}
		for i, w := range c.Wires {
			if w.Kind == api.Single {
				c.Wires[i] = single(r.Intn(12))
			}
		}
		hazard := r.Intn(c.Hazards)
		least, e := circuit.Least(c, hazard)
		if is, _ := circuit.Runs(c, 1<<hazard, least, 0); !is || e != api.OK {
			t.Fatalf("Least(%+v, %d) = %d, %d: it does not run", c, hazard, least, e)
		}
		for set := range 1 << 12 {
			many, few := bits.OnesCount(uint(set)), bits.OnesCount(uint(least))
			if many > few || many == few && set >= least {
				continue
			}
			if is, _ := circuit.Runs(c, 1<<hazard, set, 0); is {
				t.Fatalf("Least(%+v, %d) = %d, but it runs with %d", c, hazard, least, set)
			}
		}
	}
}

// TestNoTwoHiddenFaultsMeet is P3.16.
func TestNoTwoHiddenFaultsMeet(t *testing.T) {
	r := rand.New(rand.NewSource(35))
	safe, hidden := 0, 0
	for range 20000 {
		c := safeCircuit(t, r)
		l := append(oneEach(r, c, 8), anyTrials(r, c, 4)...)
		rota := anyRota(r, len(l), 6)
		rota.Gap += 3
		if _, _, is, _ := circuit.CheckRota(c, l, rota); !is {
			continue
		}
		var u []api.Upset
		for night := r.Intn(9); len(u) < 38 && night < 900; night += rota.Gap + r.Intn(2)*r.Intn(5) {
			u = append(u, sticks(night, r.Intn(len(c.Switches))))
			for later := range rota.Gap {
				if r.Intn(2) == 0 {
					u = append(u, danger(night+later, 1+r.Intn(1<<c.Hazards-1)))
				}
			}
		}
		u = u[:min(40, len(u))]
		stuck, passed, e := circuit.Play(c, l, rota, u)
		if e != api.OK || len(passed) > 0 {
			t.Fatalf("Play(%+v, %v, %v, %v) = %v, %v, %d", c, l, rota, u, stuck, passed, e)
		}
		for _, set := range stuck {
			if bits.OnesCount(uint(set)) > 1 {
				t.Fatalf("Play(%+v, %v, %v, %v) = %v", c, l, rota, u, stuck)
			}
			hidden += set & 1
		}
		safe++
	}
	if safe < 500 || hidden < 500 {
		t.Errorf("%d rotas are accepted, the switch 0 was stuck %d times", safe, hidden)
	}
}

// TestNoFewerTrials is P3.17.
func TestNoFewerTrials(t *testing.T) {
	r := rand.New(rand.NewSource(36))
	for range 300 {
		c := anyCircuit(r, 4, 12, 24)
		l := append(oneEach(r, c, 5), anyTrials(r, c, 3)...)
		blind, _ := circuit.Blind(c, l)
		fewest, _ := circuit.Fewest(c, l)
		for set := range 1 << len(l) {
			which := list(set)
			left, e := circuit.Blind(c, pick(l, which))
			enough := slices.Equal(left, blind)
			if e != api.OK || slices.Equal(which, fewest) && !enough || enough && len(which) < len(fewest) {
				t.Fatalf("Fewest(%+v, %v) = %v, but %v are blind to %v, %d", c, l, fewest, which, left, e)
			}
		}
	}
}

// TestRotasAreAccepted is P3.18.
func TestRotasAreAccepted(t *testing.T) {
	r := rand.New(rand.NewSource(37))
	found := 0
	for range 1500 {
		c := anyCircuit(r, 3, 4, 8)
		l := oneEach(r, c, 3)
		many, gap := 1+r.Intn(6), 1+r.Intn(8)
		got, e := circuit.Rota(c, l, many, gap)
		if e == api.OK {
			found++
			if _, _, is, _ := circuit.CheckRota(c, l, asRota(got, gap)); !is || len(got) != many {
				t.Fatalf("Rota(%+v, %v, %d, %d) = %v", c, l, many, gap, got)
			}
		}
		made := len(slices.DeleteFunc(slices.Clone(got), func(n int) bool { return n < 0 }))
		for range 200 {
			other := slices.Repeat([]int{-1}, many)
			for night := range other {
				if len(l) > 0 && r.Intn(3) > 0 {
					other[night] = r.Intn(len(l))
				}
			}
			trials := len(slices.DeleteFunc(slices.Clone(other), func(n int) bool { return n < 0 }))
			if _, _, is, _ := circuit.CheckRota(c, l, asRota(other, gap)); is && (e != api.OK || trials < made) {
				t.Fatalf("Rota(%+v, %v, %d, %d) = %v, %d, but %v is accepted", c, l, many, gap, got, e, other)
			}
		}
	}
	if found < 300 {
		t.Errorf("%d rotas are found", found)
	}
}

// TestNoSingleFaultLetsStepsRunBack is P0.1.
func TestNoSingleFaultLetsStepsRunBack(t *testing.T) {
	r := rand.New(rand.NewSource(38))
	safe := 0
	for range 300 {
		e := api.Escalator{Up: r.Intn(2) == 0, Empty: 1000, Pull: r.Intn(25), Drag: r.Intn(3000), Motor: 20000}
		for range 2 + r.Intn(2) {
			e.Brakes = append(e.Brakes, api.Brake{Force: 8000 + r.Intn(9000), Delay: r.Intn(4)})
		}
		s := api.Stop{Speed: r.Intn(100), Loads: api.Span{High: r.Intn(600)}}
		way, back := 300+r.Intn(300), r.Intn(20)
		critical, f := drive.Critical(e, s, way, back)
		c := safeCircuit(t, r)
		for hazard := range c.Hazards {
			for sw := range c.Switches {
				if is, g := circuit.Runs(c, 1<<hazard, 1<<sw, 0); is || g != api.OK {
					t.Fatalf("with the switch %d of %+v stuck it runs with the hazard %d: %d", sw, c, hazard, g)
				}
			}
		}
		if f != api.OK || len(critical) > 0 {
			continue
		}
		safe++
		for brake := range e.Brakes {
			s.Fail = 1 << brake
			run, _, f := drive.Distance(e, s)
			holds, _ := drive.Holds(e, s)
			if f != api.OK || run.High > way || !holds {
				t.Fatalf("without the brake %d of %+v the way is %v (at most %d), %d; it holds: %v", brake, e, run, way, f, holds)
			}
		}
	}
	if safe < 50 {
		t.Errorf("%d of 300 have no critical brake", safe)
	}
}
