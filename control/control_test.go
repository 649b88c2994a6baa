package control_test

import (
	"math"
	"slices"
	"testing"

	"newel/api"
	"newel/control"
)

func on(input int) api.Literal { return api.Literal{Kind: api.Input, Number: input} }
func least(counter, n int) api.Literal {
	return api.Literal{Kind: api.Least, Number: counter, Value: n}
}
func in(state int) api.Literal           { return api.Literal{Kind: api.In, Number: state} }
func shown(output int) api.Literal       { return api.Literal{Kind: api.Shown, Number: output} }
func when(terms ...api.Term) api.Cond    { return terms }
func all(l ...api.Literal) api.Cond      { return api.Cond{l} }
func zero(counter int) api.Set           { return api.Set{Kind: api.Zero, Counter: counter} }
func more(counter int) api.Set           { return api.Set{Kind: api.More, Counter: counter} }
func less(counter int) api.Set           { return api.Set{Kind: api.Less, Counter: counter} }
func states(names ...string) api.Machine { return api.Machine{States: named(names)} }
func yes() api.Cond                      { return api.Cond{{}} }

func not(l api.Literal) api.Literal {
	l.Not = !l.Not
	return l
}

func named(names []string) []api.State {
	var l []api.State
	for _, s := range names {
		l = append(l, api.State{Name: s})
	}
	return l
}

// d is the machine D of the chapter's examples, which text tells of.
func d() api.Machine {
	return api.Machine{
		Inputs:   []string{"call", "door"},
		Outputs:  []string{"run", "light"},
		Counters: []api.Counter{{Name: "n", Max: 2}},
		States:   []api.State{{Name: "idle", Shows: 2}, {Name: "go", Shows: 1}},
		Rules: []api.Rule{
			{From: 0, To: 1, When: all(on(0), not(on(1))), Sets: []api.Set{zero(0)}},
			{From: 1, To: 0, When: all(on(1))},
			{From: 1, To: 1, When: all(not(least(0, 2))), Sets: []api.Set{more(0)}},
			{From: 1, To: 0, When: all(least(0, 2), not(on(0)))},
		},
	}
}

const text = `inputs call door
outputs run light
counter n 2
state idle light
state go run
rule idle to go zero n if call !door
rule go to idle if door
rule go to go more n if !n>=2
rule go to idle if n>=2 !call
`

// long is the never "run n>=2" of the examples, and door the Assume "door".
func long() api.Cond { return all(shown(0), least(0, 2)) }
func door() api.Cond { return all(on(1)) }

// ring has three states, and an input that leads from each to the next one; the last one is dark.
func ring() api.Machine {
	m := states("a", "b", "c")
	m.Inputs, m.Outputs = []string{"go"}, []string{"lit"}
	m.States[0].Shows, m.States[1].Shows = 1, 1
	for i := range 3 {
		m.Rules = append(m.Rules, api.Rule{From: i, To: (i + 1) % 3, When: all(on(0))})
	}
	return m
}

// largest has as much of all as there may be: the input a leads from state to state, b and c count, and d does nothing.
func largest() api.Machine {
	m := states("sa", "sb", "sc", "sd", "se", "sf", "sg", "sh", "si", "sj", "sk", "sl")
	m.Inputs, m.Outputs = []string{"a", "b", "c", "d"}, []string{"oa", "ob", "oc", "od", "oe", "of"}
	m.Counters = []api.Counter{{Name: "n", Max: 7}, {Name: "k", Max: 7}}
	for i := range 12 {
		m.Rules = append(m.Rules, api.Rule{From: i, To: (i + 1) % 12, When: all(on(0), not(on(1)))},
			api.Rule{From: i, To: i, When: all(on(1), not(on(0))), Sets: []api.Set{more(0)}},
			api.Rule{From: i, To: i, When: all(on(0), on(1)), Sets: []api.Set{more(1)}})
	}
	for len(m.Rules) < 40 {
		m.Rules = append(m.Rules, api.Rule{From: -1})
	}
	return m
}

func TestStep(t *testing.T) {
	counting := states("a", "b")
	counting.Inputs, counting.Counters = []string{"x"}, []api.Counter{{Name: "n", Max: 3}, {Name: "k", Max: 1}}
	change := func(sets ...api.Set) api.Machine {
		m := counting
		m.Rules = []api.Rule{{From: -1, To: 1, When: yes(), Sets: sets}}
		return m
	}
	rules := func(l ...api.Rule) api.Machine {
		m := counting
		m.Rules = l
		return m
	}
	for i, x := range []struct {
		m     api.Machine
		p     api.Place
		input int
		want  api.Place
		e     api.Errno
	}{
		{d(), place(0), 1, place(1), api.OK},
		{d(), place(0, 2), 1, place(1), api.OK},
		{d(), place(0, 2), 3, place(0, 2), api.OK}, // no rule: nothing changes
		{d(), place(1), 0, place(1, 1), api.OK},
		{d(), place(1, 1), 3, place(0, 1), api.OK},
		{d(), place(1, 2), 0, place(0, 2), api.OK},
		{d(), place(1, 2), 1, place(1, 2), api.OK},
		{counting, place(1, 3, 1), 1, place(1, 3, 1), api.OK}, // no rules at all
		{change(), place(0, 2, 1), 0, place(1, 2, 1), api.OK},
		{change(zero(0)), place(0, 3, 1), 0, place(1, 0, 1), api.OK},
		{change(more(0)), place(0, 2, 1), 0, place(1, 3, 1), api.OK},
		{change(more(0)), place(0, 3, 1), 0, place(1, 3, 1), api.OK}, // at its Max
		{change(less(0)), place(0, 3, 1), 0, place(1, 2, 1), api.OK},
		{change(less(0)), place(0, 0, 1), 0, place(1, 0, 1), api.OK}, // it is 0
		{change(more(1)), place(0, 1, 0), 0, place(1, 1, 1), api.OK},
		{change(more(0), less(0)), place(0, 3), 0, place(1, 2), api.OK}, // one after the other
		{change(less(0), more(0)), place(0, 3), 0, place(1, 3), api.OK},
		{change(less(0), more(0)), place(0, 0), 0, place(1, 1), api.OK},
		{change(more(0), zero(0), more(1), more(0)), place(0, 3), 0, place(1, 1, 1), api.OK},
		{rules(api.Rule{From: 1, To: 1, When: yes()}), place(0), 0, place(0), api.OK},
		{rules(api.Rule{From: 0, To: 1}), place(0), 0, place(0), api.OK}, // an empty condition does not hold
		{rules(api.Rule{From: 0, To: 0, When: yes()}, api.Rule{From: 0, To: 1, When: yes()}), place(0), 0, place(0), api.OK},
		{rules(api.Rule{From: -1, To: 0, When: yes()}, api.Rule{From: 0, To: 1, When: yes()}), place(0), 0, place(0), api.OK},
		{rules(api.Rule{From: 0, To: 1, When: all(on(0))}, api.Rule{From: -1, When: yes(), Sets: []api.Set{more(0)}}), place(0), 0, place(0, 1), api.OK},
		{rules(api.Rule{From: -1, To: 0, When: all(least(0, 0))}), place(1), 0, place(0), api.OK},
		{rules(api.Rule{From: -1, To: 0, When: all(least(0, 3))}), place(1, 2), 0, place(1, 2), api.OK},
		{rules(api.Rule{From: -1, To: 0, When: when(api.Term{on(0), not(on(0))}, api.Term{not(on(0))})}), place(1), 0, place(0), api.OK},
		{rules(api.Rule{From: -1, To: 0, When: when(api.Term{on(0), not(on(0))}, api.Term{not(on(0))})}), place(1), 1, place(1), api.OK},
		{largest(), place(11, 7, 7), 15, place(11, 7, 7), api.OK},
		{largest(), place(11, 7, 7), 13, place(0, 7, 7), api.OK},
		{d(), place(2), 0, api.Place{}, api.ErrArg},
		{d(), place(-1), 0, api.Place{}, api.ErrArg},
		{d(), place(0, 3), 0, api.Place{}, api.ErrArg},
		{d(), place(0, -1), 0, api.Place{}, api.ErrArg},
		{d(), place(0, 0, 1), 0, api.Place{}, api.ErrArg}, // there is no such counter
		{d(), place(0, 0, -1), 0, api.Place{}, api.ErrArg},
		{d(), place(0), 4, api.Place{}, api.ErrArg},
		{d(), place(0), -1, api.Place{}, api.ErrArg},
		{states("a"), place(0), 0, place(0), api.OK}, // without inputs there is the input 0
		{states("a"), place(0), 1, api.Place{}, api.ErrArg},
		{d(), place(math.MaxInt, math.MinInt), math.MaxInt, api.Place{}, api.ErrArg},
		{api.Machine{}, place(0), 0, api.Place{}, api.ErrMachine},
	} {
		if p, e := control.Step(x.m, x.p, x.input); p != x.want || e != x.e {
			t.Errorf("%d: Step(%v, %d) = %v, %d, want %v, %d", i, x.p, x.input, p, e, x.want, x.e)
		}
	}
}

// TestStepAsksBefore: all questions are asked of the situation before the step.
func TestStepAsksBefore(t *testing.T) {
	m := states("a", "b")
	m.Outputs, m.Counters = []string{"x"}, []api.Counter{{Name: "n", Max: 1}}
	m.States[1].Shows = 1
	m.Rules = []api.Rule{{From: -1, To: 1, When: all(not(shown(0)), not(least(0, 1))), Sets: []api.Set{more(0)}},
		{From: -1, To: 0, When: all(shown(0), least(0, 1))}}
	want := []api.Place{place(1, 1), place(0, 1), place(0, 1)}
	if l, e := control.Run(m, []int{0, 0, 0}); e != api.OK || !slices.Equal(l, want) {
		t.Errorf("Run = %v, %d", l, e)
	}
}

func TestRun(t *testing.T) {
	for i, x := range []struct {
		m      api.Machine
		inputs []int
		want   []api.Place
		e      api.Errno
	}{
		{d(), []int{1, 0, 0, 0}, []api.Place{place(1), place(1, 1), place(1, 2), place(0, 2)}, api.OK},
		{d(), nil, nil, api.OK},
		{d(), []int{0}, []api.Place{place(0)}, api.OK},
		{d(), []int{1, 4}, nil, api.ErrArg},
		{d(), []int{-1, 1}, nil, api.ErrArg},
		{states("a"), []int{0, 0}, []api.Place{place(0), place(0)}, api.OK},
		{states("a"), []int{1}, nil, api.ErrArg},
		{ring(), make([]int, 200), make([]api.Place, 200), api.OK},
		{ring(), make([]int, 201), nil, api.ErrMany},
		{ring(), slices.Repeat([]int{7}, 200), nil, api.ErrArg},
		{ring(), slices.Repeat([]int{7}, 201), nil, api.ErrMany},
		{api.Machine{}, slices.Repeat([]int{7}, 201), nil, api.ErrMachine},
	} {
		if l, e := control.Run(x.m, x.inputs); !slices.Equal(l, x.want) || e != x.e {
			t.Errorf("%d: Run(%v) = %v, %d, want %v, %d", i, x.inputs, l, e, x.want, x.e)
		}
	}
}

func TestReach(t *testing.T) {
	for i, x := range []struct {
		m      api.Machine
		assume api.Cond
		want   []api.Place
		e      api.Errno
	}{
		{d(), nil, []api.Place{place(0), place(1), place(1, 1), place(1, 2), place(0, 1), place(0, 2)}, api.OK},
		{d(), api.Cond{}, []api.Place{place(0), place(1), place(1, 1), place(1, 2), place(0, 1), place(0, 2)}, api.OK},
		{d(), yes(), []api.Place{place(0), place(1), place(1, 1), place(1, 2), place(0, 1), place(0, 2)}, api.OK},
		{d(), door(), []api.Place{place(0)}, api.OK},
		{d(), all(not(on(1)), on(0)), []api.Place{place(0), place(1), place(1, 1), place(1, 2)}, api.OK},
		{d(), all(on(0), not(on(0))), []api.Place{place(0)}, api.OK}, // no input is possible
		{d(), all(in(0)), []api.Place{place(0), place(1)}, api.OK},   // asked in the situation before the step
		{d(), all(shown(1)), []api.Place{place(0), place(1)}, api.OK},
		{d(), when(api.Term{in(0)}, api.Term{in(1), not(least(0, 1))}), []api.Place{place(0), place(1), place(1, 1)}, api.OK},
		{ring(), nil, []api.Place{place(0), place(1), place(2)}, api.OK},
		{states("a", "b"), nil, []api.Place{place(0)}, api.OK},
		{d(), all(on(2)), nil, api.ErrCond},
		{api.Machine{}, nil, nil, api.ErrMachine},
	} {
		if l, e := control.Reach(x.m, x.assume); !slices.Equal(l, x.want) || e != x.e {
			t.Errorf("%d: Reach(%v) = %v, %d, want %v, %d", i, x.assume, l, e, x.want, x.e)
		}
	}
}

func TestBreach(t *testing.T) {
	ways := states("a", "b", "c", "z") // to z by 1 0, by 0 3, and by 2 1
	ways.Inputs = []string{"x", "y"}
	to := func(from, to int, l ...api.Literal) api.Rule { return api.Rule{From: from, To: to, When: all(l...)} }
	ways.Rules = []api.Rule{to(0, 1, on(0), not(on(1))), to(0, 2), to(1, 3, not(on(0)), not(on(1))), to(2, 3, on(0))}
	for i, x := range []struct {
		m             api.Machine
		assume, never api.Cond
		run           []int
		is            bool
		e             api.Errno
	}{
		{d(), nil, long(), []int{1, 0, 0}, true, api.OK},
		{d(), door(), long(), nil, false, api.OK},
		{d(), nil, nil, nil, false, api.OK}, // an empty condition never holds
		{d(), nil, yes(), nil, true, api.OK},
		{d(), nil, all(in(0)), nil, true, api.OK}, // the beginning
		{d(), nil, all(in(0), least(0, 2)), []int{1, 0, 0, 0}, true, api.OK},
		{d(), nil, all(in(0), least(0, 1)), []int{1, 0, 2}, true, api.OK},
		{d(), all(not(on(1))), all(in(0), least(0, 1)), []int{1, 0, 0, 0}, true, api.OK},
		{d(), nil, all(on(0)), nil, false, api.OK}, // asked with the input 0
		{d(), nil, all(not(on(0)), in(1)), []int{1}, true, api.OK},
		{d(), all(on(0)), all(not(on(0)), in(1)), []int{1}, true, api.OK},
		{ways, nil, all(in(3)), []int{0, 1}, true, api.OK},
		{ways, when(api.Term{in(1)}, api.Term{on(0)}), all(in(3)), []int{1, 0}, true, api.OK},
		{ways, when(api.Term{not(in(0))}, api.Term{on(1)}), all(in(3)), []int{2, 1}, true, api.OK},
		{ring(), nil, all(not(shown(0))), []int{1, 1}, true, api.OK},
		{states("a"), nil, all(not(in(0))), nil, false, api.OK},
		{largest(), nil, all(in(11), least(0, 7), least(1, 7)), slices.Concat(slices.Repeat([]int{1}, 11), slices.Repeat([]int{2}, 7), slices.Repeat([]int{3}, 7)), true, api.OK},
		{d(), all(on(2)), nil, nil, false, api.ErrCond},
		{d(), nil, all(on(2)), nil, false, api.ErrCond},
		{api.Machine{}, nil, nil, nil, false, api.ErrMachine},
	} {
		if run, is, e := control.Breach(x.m, x.assume, x.never); !slices.Equal(run, x.run) || is != x.is || e != x.e {
			t.Errorf("%d: Breach(%v, %v) = %v, %v, %d, want %v, %v, %d", i, x.assume, x.never, run, is, e, x.run, x.is, x.e)
		}
	}
}

func TestStuck(t *testing.T) {
	low := ring() // it goes on while the input is off
	for i := range low.Rules {
		low.Rules[i].When = all(not(on(0)))
	}
	for i, x := range []struct {
		m             api.Machine
		assume, never api.Cond
		input, value  int
		run           []int
		is            bool
		e             api.Errno
	}{
		{d(), door(), long(), 1, 0, []int{3, 2, 2}, true, api.OK},
		{d(), nil, long(), 0, 1, []int{0, 0, 0}, true, api.OK},
		{d(), nil, all(in(0), least(0, 1)), 0, 1, []int{0, 0, 2}, true, api.OK},
		{d(), nil, all(in(0)), 0, 0, nil, true, api.OK}, // the beginning
		{d(), nil, nil, 0, 0, nil, false, api.OK},
		{ring(), all(not(on(0))), all(in(2)), 0, 1, []int{0, 0}, true, api.OK}, // Assume is asked of the real input
		{ring(), all(on(0)), all(in(2)), 0, 1, []int{1, 1}, true, api.OK},
		{low, all(on(0)), all(in(2)), 0, 0, []int{1, 1}, true, api.OK},
		{ring(), all(on(0), not(on(0))), all(in(2)), 0, 0, nil, false, api.OK},
		{ring(), nil, all(in(2), on(0)), 0, 0, nil, false, api.OK}, // asked with the input 0, which is not stuck
		{states("a"), nil, yes(), 0, 0, nil, false, api.OK},        // there is no input
		{d(), all(on(2)), nil, 0, 0, nil, false, api.ErrCond},
		{d(), nil, all(on(2)), 0, 0, nil, false, api.ErrCond},
		{api.Machine{}, nil, nil, 0, 0, nil, false, api.ErrMachine},
	} {
		input, value, run, is, e := control.Stuck(x.m, x.assume, x.never)
		if input != x.input || value != x.value || !slices.Equal(run, x.run) || is != x.is || e != x.e {
			t.Errorf("%d: Stuck(%v, %v) = %d, %d, %v, %v, %d", i, x.assume, x.never, input, value, run, is, e)
		}
	}
}

func TestProves(t *testing.T) {
	run := all(shown(0))
	reach := []api.Place{place(0), place(1), place(1, 1), place(1, 2), place(0, 1), place(0, 2)}
	for i, x := range []struct {
		m             api.Machine
		assume, never api.Cond
		l             []api.Place
		at            int
		is            bool
		e             api.Errno
	}{
		{d(), door(), run, []api.Place{place(0)}, 0, true, api.OK},
		{d(), nil, run, []api.Place{place(0)}, 0, false, api.OK}, // an input leads out of it
		{d(), nil, nil, reach, 0, true, api.OK},
		{d(), nil, run, reach, 1, false, api.OK},
		{d(), nil, nil, reach[1:], 0, false, api.OK}, // go 0 leads to idle 0
		{d(), all(not(on(1))), nil, reach[1:5], 2, false, api.OK},
		{d(), all(not(on(1))), nil, reach[1:], 5, false, api.OK}, // the beginning alone is missing
		{d(), nil, nil, nil, 0, false, api.OK},
		{d(), door(), run, []api.Place{place(0, 1), place(0, 2)}, 2, false, api.OK},
		{d(), door(), run, []api.Place{place(0, 1), place(0), place(0)}, 0, true, api.OK}, // more than can be reached, and one twice
		{d(), door(), run, []api.Place{place(0, 1), place(0), place(1)}, 2, false, api.OK},
		{d(), door(), nil, []api.Place{place(1, 1), place(0)}, 0, false, api.OK},
		{d(), door(), nil, []api.Place{place(0, 1), place(1, 1), place(0)}, 0, true, api.OK},
		{d(), door(), all(on(1)), []api.Place{place(0)}, 0, true, api.OK}, // asked with the input 0
		{d(), door(), all(not(on(1))), []api.Place{place(0)}, 0, false, api.OK},
		{d(), door(), run, slices.Repeat([]api.Place{place(0)}, 1000), 0, true, api.OK},
		{d(), door(), run, slices.Repeat([]api.Place{place(0)}, 1001), 0, false, api.ErrMany},
		{d(), door(), run, slices.Repeat([]api.Place{place(9)}, 1001), 0, false, api.ErrMany},
		{d(), door(), run, slices.Repeat([]api.Place{place(9)}, 1000), 0, false, api.ErrArg},
		{d(), nil, run, []api.Place{place(1), place(0, 3)}, 0, false, api.ErrArg},
		{d(), nil, run, []api.Place{place(0), place(0, 0, 1)}, 0, false, api.ErrArg},
		{d(), all(on(2)), nil, make([]api.Place, 1001), 0, false, api.ErrCond},
		{d(), nil, all(on(2)), []api.Place{place(9)}, 0, false, api.ErrCond},
		{api.Machine{}, nil, nil, nil, 0, false, api.ErrMachine},
	} {
		if at, is, e := control.Proves(x.m, x.assume, x.never, x.l); at != x.at || is != x.is || e != x.e {
			t.Errorf("%d: Proves(%v, %v) = %d, %v, %d, want %d, %v, %d", i, x.assume, x.never, at, is, e, x.at, x.is, x.e)
		}
	}
}

func TestTrap(t *testing.T) {
	hole := ring() // by 2 or 3 into a state without a way out
	hole.Inputs = append(hole.Inputs, "fall")
	hole.States = append(hole.States, api.State{Name: "hole"})
	hole.Rules = slices.Insert(hole.Rules, 0, api.Rule{From: 2, To: 3, When: all(on(1))})
	for i, x := range []struct {
		m            api.Machine
		assume, rest api.Cond
		run          []int
		is           bool
		e            api.Errno
	}{
		{d(), nil, all(shown(1)), nil, false, api.OK},
		{d(), nil, nil, nil, true, api.OK}, // nothing is rest
		{d(), nil, yes(), nil, false, api.OK},
		{d(), nil, all(least(0, 2)), nil, false, api.OK},
		{d(), all(on(0), not(on(1))), all(in(0)), []int{1}, true, api.OK},
		{d(), when(api.Term{in(0)}, api.Term{least(0, 1)}, api.Term{on(0)}), all(in(0)), nil, false, api.OK},
		{d(), when(api.Term{in(0)}, api.Term{not(on(0))}), all(in(0), not(least(0, 1))), nil, false, api.OK},
		{d(), when(api.Term{in(0), not(least(0, 1))}, api.Term{in(1)}), all(in(0), not(least(0, 1))), []int{1, 0}, true, api.OK},
		{d(), door(), all(in(1)), nil, true, api.OK},
		{hole, nil, all(in(0)), []int{1, 1, 2}, true, api.OK},
		{hole, all(on(0)), all(in(0)), []int{1, 1, 3}, true, api.OK},
		{hole, all(not(on(1))), all(in(0)), nil, false, api.OK},
		{hole, nil, all(in(3)), nil, false, api.OK},
		{hole, nil, all(not(on(0)), in(0)), []int{1, 1, 2}, true, api.OK}, // asked with the input 0
		{hole, nil, all(on(0)), nil, true, api.OK},
		{states("a"), nil, yes(), nil, false, api.OK},
		{d(), all(on(2)), nil, nil, false, api.ErrCond},
		{d(), nil, all(on(2)), nil, false, api.ErrCond},
		{api.Machine{}, nil, nil, nil, false, api.ErrMachine},
	} {
		if run, is, e := control.Trap(x.m, x.assume, x.rest); !slices.Equal(run, x.run) || is != x.is || e != x.e {
			t.Errorf("%d: Trap(%v, %v) = %v, %v, %d, want %v, %v, %d", i, x.assume, x.rest, run, is, e, x.run, x.is, x.e)
		}
	}
}

func TestSame(t *testing.T) {
	without := d()
	without.Rules = without.Rules[:3]
	dark := d()
	dark.States[0].Shows = 0
	double := ring() // six states that show as the three do
	double.States = slices.Concat(double.States, double.States)
	double.Rules = nil
	for i := range 6 {
		double.States[i].Name = string("uvwxyz"[i])
		double.Rules = append(double.Rules, api.Rule{From: i, To: (i + 1) % 6, When: all(on(0))})
	}
	fewer, other := d(), d()
	fewer.Inputs = []string{"call", "gate"}
	other.Outputs = []string{"light", "run"}
	few := states("a")
	for i, x := range []struct {
		a, b   api.Machine
		assume api.Cond
		inputs []int
		is     bool
		e      api.Errno
	}{
		{d(), d(), nil, nil, true, api.OK},
		{d(), without, nil, []int{1, 0, 0, 0}, false, api.OK},
		{without, d(), nil, []int{1, 0, 0, 0}, false, api.OK},
		{d(), without, all(on(0)), nil, true, api.OK},
		{d(), without, door(), nil, true, api.OK},
		{d(), dark, nil, nil, false, api.OK}, // behind no inputs
		{d(), dark, all(on(0), not(on(0))), nil, false, api.OK},
		{ring(), double, nil, nil, true, api.OK},
		{double, ring(), nil, nil, true, api.OK},
		{double, ring(), all(in(5)), nil, true, api.OK}, // Assume is asked of the first machine
		{ring(), double, all(in(5)), nil, false, api.ErrCond},
		{without, d(), when(api.Term{not(least(0, 2))}, api.Term{in(0)}), nil, true, api.OK},
		{d(), fewer, nil, nil, false, api.ErrArg},
		{d(), other, nil, nil, false, api.ErrArg},
		{d(), few, nil, nil, false, api.ErrArg},
		{few, states("b", "c"), nil, nil, true, api.OK},
		{d(), few, all(on(2)), nil, false, api.ErrCond},
		{few, d(), door(), nil, false, api.ErrCond},
		{d(), api.Machine{}, all(on(2)), nil, false, api.ErrMachine},
		{api.Machine{}, d(), nil, nil, false, api.ErrMachine},
	} {
		if inputs, is, e := control.Same(x.a, x.b, x.assume); !slices.Equal(inputs, x.inputs) || is != x.is || e != x.e {
			t.Errorf("%d: Same(%v) = %v, %v, %d, want %v, %v, %d", i, x.assume, inputs, is, e, x.inputs, x.is, x.e)
		}
	}
}

// TestSameAsksTheFirst: what the second machine shows or counts does not matter for Assume.
func TestSameAsksTheFirst(t *testing.T) {
	a, b := ring(), ring()
	b.Rules = b.Rules[:1]
	still := a
	still.Rules = nil
	if inputs, is, e := control.Same(a, b, all(in(0))); len(inputs) != 0 || !is || e != api.OK {
		t.Errorf("Same = %v, %v, %d", inputs, is, e)
	}
	if inputs, is, e := control.Same(still, a, all(in(0))); !slices.Equal(inputs, []int{1, 1}) || is || e != api.OK {
		t.Errorf("Same = %v, %v, %d", inputs, is, e)
	}
}

func TestClasses(t *testing.T) {
	lit := ring()
	lit.States[2].Shows = 1
	for i, x := range []struct {
		m    api.Machine
		want []int
		e    api.Errno
	}{
		{d(), []int{0, 1, 2, 3, 0, 0}, api.OK},
		{ring(), []int{0, 1, 2}, api.OK}, // the first two show the same, but not behind an input
		{lit, []int{0, 0, 0}, api.OK},
		{states("a", "b"), []int{0}, api.OK},
		{api.Machine{}, nil, api.ErrMachine},
	} {
		if l, e := control.Classes(x.m); !slices.Equal(l, x.want) || e != x.e {
			t.Errorf("%d: Classes = %v, %d, want %v, %d", i, l, e, x.want, x.e)
		}
	}
}

// TestTheLargest: all 768 situations of a machine can be reached, and nearly all pairs of those of two.
func TestTheLargest(t *testing.T) {
	a, b := largest(), largest()
	for i, r := range b.Rules {
		l := slices.Clone(slices.Concat(r.When...))
		for k := range l {
			l[k].Number += 2
		}
		if len(l) > 0 {
			b.Rules[i].When = api.Cond{l}
		}
	}
	if l, e := control.Reach(a, nil); len(l) != 768 || e != api.OK {
		t.Errorf("%d can be reached, %d", len(l), e)
	}
	if l, e := control.Classes(a); len(l) != 768 || slices.Max(l) != 0 || e != api.OK {
		t.Errorf("Classes = %v, %d", l, e)
	}
	if inputs, is, e := control.Same(a, b, nil); len(inputs) != 0 || !is || e != api.OK {
		t.Errorf("Same = %v, %v, %d", inputs, is, e)
	}
	if run, is, e := control.Trap(a, nil, all(least(0, 7), least(1, 7), in(11))); len(run) != 0 || is || e != api.OK {
		t.Errorf("Trap = %v, %v, %d", run, is, e)
	}
	b.States[11].Shows = 63
	if inputs, is, e := control.Same(a, b, nil); !slices.Equal(inputs, slices.Repeat([]int{4}, 11)) || is || e != api.OK {
		t.Errorf("Same = %v, %v, %d", inputs, is, e)
	}
	if l, e := control.Classes(b); len(l) != 768 || slices.Max(l) != 11 || e != api.OK {
		t.Errorf("Classes = %v, %d", l, e)
	}
}
