package control_test

import (
	"math/rand"
	"slices"
	"testing"

	"newel/api"
	"newel/circuit"
	"newel/control"
)

// anyRun draws inputs that are possible when they come, and returns them with the situations behind them. What is heard of an input is what hears says.
func anyRun(t *testing.T, r *rand.Rand, m api.Machine, assume api.Cond, hears func(int) int) ([]int, []api.Place) {
	t.Helper()
	var p api.Place
	var run []int
	var l []api.Place
	for range 12 {
		input := r.Intn(1 << len(m.Inputs))
		if !refPossible(m, assume, p, input) {
			continue
		}
		next, e := control.Step(m, p, hears(input))
		if e != api.OK {
			t.Fatalf("Step(%v, %v, %d): %d", m, p, input, e)
		}
		p = next
		run, l = append(run, input), append(l, p)
	}
	return run, l
}

// end returns where a run leads to.
func end(t *testing.T, m api.Machine, run []int) api.Place {
	t.Helper()
	l, e := control.Run(m, run)
	if e != api.OK {
		t.Fatalf("Run(%v, %v): %d", m, run, e)
	}
	if len(l) == 0 {
		return api.Place{}
	}
	return l[len(l)-1]
}

// TestWhatIsToldToBeImpossible is P4.11.
func TestWhatIsToldToBeImpossible(t *testing.T) {
	r := rand.New(rand.NewSource(31))
	safe, proved := 0, 0
	for range 3000 {
		x := draw(r, limits{3, 3, 2, 3, 5, 15})
		run, is, e := control.Breach(x.m, x.assume, x.never)
		l, f := control.Reach(x.m, x.assume)
		if e != api.OK || f != api.OK {
			t.Fatalf("Breach(%v): %d; Reach: %d", x, e, f)
		}
		other, places := anyRun(t, r, x.m, x.assume, unstuck)
		soon := slices.IndexFunc(places, func(p api.Place) bool { return refHolds(x.m, x.never, p, 0) })
		at, proves, e := control.Proves(x.m, x.assume, x.never, l)
		if e != api.OK || proves == is {
			t.Fatalf("Proves(%v) of what can be reached = %d, %v, %d, but Breach = %v", x, at, proves, e, is)
		}
		if !is {
			safe++
			if soon >= 0 {
				t.Fatalf("Breach(%v) reports nothing, but behind %v never holds", x, other[:soon+1])
			}
		} else if !refHolds(x.m, x.never, end(t, x.m, run), 0) || soon >= 0 && len(run) > soon+1 {
			t.Fatalf("Breach(%v) = %v, and %v leads there too", x, run, other[:soon+1])
		}
		l = append(l, anyPlaces(r, x.m, 3)...)
		if _, proves, _ := control.Proves(x.m, x.assume, x.never, l); proves {
			proved++
			if is {
				t.Fatalf("Proves(%v) accepts %v, but Breach = %v", x, l, run)
			}
		}
	}
	if safe < 500 || proved < 200 {
		t.Errorf("%d have no breach, %d certificates have more situations", safe, proved)
	}
}

// TestNoSingleInput is P4.12.
func TestNoSingleInput(t *testing.T) {
	r := rand.New(rand.NewSource(32))
	safe := 0
	for range 3000 {
		x := draw(r, limits{3, 3, 1, 3, 5, 15})
		at, value, run, is, e := control.Stuck(x.m, x.assume, x.never)
		if e != api.OK {
			t.Fatalf("Stuck(%v): %d", x, e)
		}
		for input := range x.m.Inputs {
			for bit := range 2 {
				hears := func(given int) int { return given | 1<<input }
				if bit == 0 {
					hears = func(given int) int { return given &^ (1 << input) }
				}
				other, l := anyRun(t, r, x.m, x.assume, hears)
				if !is && slices.ContainsFunc(l, func(p api.Place) bool { return refHolds(x.m, x.never, p, 0) }) {
					t.Fatalf("Stuck(%v) reports nothing, but with %d at %d behind %v never holds", x, input, bit, other)
				}
				if is && input == at && bit == value {
					var heard []int
					for _, given := range run {
						heard = append(heard, hears(given))
					}
					if !refHolds(x.m, x.never, end(t, x.m, heard), 0) {
						t.Fatalf("Stuck(%v) = %d, %d, %v: never does not hold", x, at, value, run)
					}
				}
			}
		}
		if !is {
			safe++
		}
	}
	if safe < 500 {
		t.Errorf("%d have none", safe)
	}
}

// TestReachIsClosed is P4.13.
func TestReachIsClosed(t *testing.T) {
	r := rand.New(rand.NewSource(33))
	for range 1000 {
		x := draw(r, limits{3, 3, 2, 3, 5, 15})
		l, e := control.Reach(x.m, x.assume)
		if e != api.OK || len(l) == 0 || l[0] != (api.Place{}) {
			t.Fatalf("Reach(%v) = %v, %d", x, l, e)
		}
		behind := map[api.Place]bool{}
		for i, p := range l {
			if i > 0 && !behind[p] {
				t.Fatalf("Reach(%v) = %v: %v is not behind one before it", x, l, p)
			}
			for input := range 1 << len(x.m.Inputs) {
				if refPossible(x.m, x.assume, p, input) {
					next, _ := control.Step(x.m, p, input)
					behind[next] = true
				}
			}
		}
		_, places := anyRun(t, r, x.m, x.assume, unstuck)
		if slices.ContainsFunc(places, func(p api.Place) bool { return !slices.Contains(l, p) }) {
			t.Fatalf("Reach(%v) = %v, but %v can be reached", x, l, places)
		}
		if c := append(copyCond(x.assume), anyCond(r, x.m, true)...); len(x.assume) > 0 && len(c) > len(x.assume) && len(c) <= 6 {
			wider, e := control.Reach(x.m, c)
			if e != api.OK || slices.ContainsFunc(l, func(p api.Place) bool { return !slices.Contains(wider, p) }) {
				t.Fatalf("Reach(%v) = %v, but with %v it is %v, %d", x, l, c, wider, e)
			}
		}
	}
}

// TestRestCanBeReached is P4.14.
func TestRestCanBeReached(t *testing.T) {
	r := rand.New(rand.NewSource(34))
	free, trapped := 0, 0
	for range 2000 {
		x := draw(r, limits{3, 3, 1, 3, 5, 15})
		run, is, e := control.Trap(x.m, x.assume, x.never)
		if e != api.OK {
			t.Fatalf("Trap(%v): %d", x, e)
		}
		leads := func(from api.Place) bool {
			on := best(from, len(x.m.Inputs), func(p api.Place, input int) (api.Place, bool) {
				return refStep(x.m, p, input), refPossible(x.m, x.assume, p, input)
			})
			return slices.ContainsFunc(order(on), func(p api.Place) bool { return refHolds(x.m, x.never, p, 0) })
		}
		if is {
			trapped++
			if leads(end(t, x.m, run)) {
				t.Fatalf("Trap(%v) = %v, but a run leads to rest", x, run)
			}
			continue
		}
		free++
		other, l := anyRun(t, r, x.m, x.assume, unstuck)
		if p := append([]api.Place{{}}, l...)[len(l)]; !leads(p) {
			t.Fatalf("Trap(%v) reports nothing, but behind %v no run leads to rest", x, other)
		}
	}
	if free < 300 || trapped < 300 {
		t.Errorf("%d have no trap, %d have one", free, trapped)
	}
}

// TestWhatIsNotTheSameShowsIt is P4.15.
func TestWhatIsNotTheSameShowsIt(t *testing.T) {
	r := rand.New(rand.NewSource(35))
	differ := 0
	for range 1500 {
		x := draw(r, limits{3, 3, 1, 3, 5, 15})
		m := x.m
		if run, is, e := control.Same(m, m, x.assume); len(run) > 0 || !is || e != api.OK {
			t.Fatalf("Same(%v, itself) = %v, %v, %d", m, run, is, e)
		}
		if n := alike(r, m); refCheck(n) {
			run, is, e := control.Same(m, n, x.assume)
			p, q := end(t, m, run), end(t, n, run)
			if e != api.OK || is == (m.States[p.State].Shows != n.States[q.State].Shows) {
				t.Fatalf("Same(%v, %v, %v) = %v, %v, %d", m, n, x.assume, run, is, e)
			}
			if !is {
				differ++
			}
		}
		l, _ := control.Reach(m, nil)
		classes, e := control.Classes(m)
		if e != api.OK || len(classes) != len(l) {
			t.Fatalf("Classes(%v) = %v, %d", m, classes, e)
		}
		for i, p := range l {
			first := slices.Index(classes, classes[i])
			q := l[first]
			if m.States[p.State].Shows != m.States[q.State].Shows {
				t.Fatalf("Classes(%v) = %v: %v and %v show others", m, classes, p, q)
			}
			for input := range 1 << len(m.Inputs) {
				p, _ := control.Step(m, p, input)
				q, _ := control.Step(m, q, input)
				if classes[slices.Index(l, p)] != classes[slices.Index(l, q)] {
					t.Fatalf("Classes(%v) = %v: with %d %v and %v lead to others", m, classes, input, l[i], l[first])
				}
			}
		}
	}
	if differ < 100 {
		t.Errorf("%d are not the same", differ)
	}
}

// halted draws a controller that halts when its last input, which says that its circuit conducts, is off: in its state 0 the output 0, which runs the machine, is off.
func halted(r *rand.Rand) api.Machine {
	for {
		m := anyMachine(r, limits{3, 3, 2, 3, 6, 20})
		if len(m.Outputs) == 0 {
			continue
		}
		m.Inputs = append(m.Inputs, "safe")
		m.States[0].Shows &^= 1
		m.Rules = append([]api.Rule{{From: -1, When: all(not(on(len(m.Inputs) - 1)))}}, m.Rules...)
		if refCheck(m) {
			return m
		}
	}
}

// TestItRunsBehindNoHazard is P0.2.
func TestItRunsBehindNoHazard(t *testing.T) {
	r := rand.New(rand.NewSource(36))
	hazardous, ran := 0, 0
	for range 500 {
		c := api.Circuit{Hazards: 1 + r.Intn(3), Wires: []api.Wire{{Kind: api.Series}}} // two switches for each hazard, all in series
		for sw := range 2 * c.Hazards {
			c.Switches = append(c.Switches, 1<<(sw/2)|r.Intn(1<<c.Hazards))
			c.Wires[0].Of = append(c.Wires[0].Of, sw+1)
			c.Wires = append(c.Wires, api.Wire{Kind: api.Single, Of: []int{sw}})
		}
		if l, e := circuit.Critical(c); len(l) > 0 || e != api.OK {
			t.Fatalf("Critical(%v) = %v, %d", c, l, e)
		}
		m := halted(r)
		safe := len(m.Inputs) - 1
		if run, is, e := control.Breach(m, all(not(on(safe))), all(shown(0))); is || e != api.OK {
			t.Fatalf("Breach(%v) = %v, %v, %d", m, run, is, e)
		}
		stuck := 1 << r.Intn(len(c.Switches)) * r.Intn(2)
		var p api.Place
		for range 30 {
			hazards := r.Intn(1<<c.Hazards) * r.Intn(2)
			input := r.Intn(1 << safe)
			if is, e := circuit.Runs(c, hazards, stuck, 0); is && e == api.OK {
				input |= 1 << safe
			}
			next, e := control.Step(m, p, input)
			runs := m.States[next.State].Shows&1 == 1
			if e != api.OK || runs && hazards > 0 {
				t.Fatalf("with the hazards %d of %v, and %d stuck, %v goes from %v to %v, %d", hazards, c, stuck, m, p, next, e)
			}
			if hazards > 0 && m.States[p.State].Shows&1 == 1 {
				hazardous++
			}
			if runs {
				ran++
			}
			p = next
		}
	}
	if hazardous < 300 || ran < 1000 {
		t.Errorf("it ran %d times, %d times a hazard came", ran, hazardous)
	}
}
