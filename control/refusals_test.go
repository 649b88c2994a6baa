package control_test

import (
	"math"
	"math/rand"
	"reflect"
	"slices"
	"testing"

	"newel/api"
	"newel/control"
)

// input is what all functions together take.
type input struct {
	m, other      api.Machine
	assume, never api.Cond
	p             api.Place
	one           int
	inputs        []int
	l             []api.Place
	text          string
}

// errorsOf calls all functions; a result beside an error counts as an error of its own.
func errorsOf(x input) map[string]api.Errno {
	out := map[string]api.Errno{}
	put := func(name string, e api.Errno, zero bool) {
		if e != api.OK && !zero {
			e = -1
		}
		out[name] = e
	}
	put("Check", control.Check(x.m), true)
	s, e := control.Format(x.m)
	put("Format", e, s == "")
	m, line, e := control.Parse(x.text)
	put("Parse", e, reflect.DeepEqual(m, api.Machine{}) && (line > 0) == (e == api.ErrForm))
	p, e := control.Step(x.m, x.p, x.one)
	put("Step", e, p == api.Place{})
	l, e := control.Run(x.m, x.inputs)
	put("Run", e, len(l) == 0)
	l, e = control.Reach(x.m, x.assume)
	put("Reach", e, len(l) == 0)
	run, is, e := control.Breach(x.m, x.assume, x.never)
	put("Breach", e, len(run) == 0 && !is)
	number, value, run, is, e := control.Stuck(x.m, x.assume, x.never)
	put("Stuck", e, number == 0 && value == 0 && len(run) == 0 && !is)
	at, is, e := control.Proves(x.m, x.assume, x.never, x.l)
	put("Proves", e, at == 0 && !is)
	run, is, e = control.Trap(x.m, x.assume, x.never)
	put("Trap", e, len(run) == 0 && !is)
	run, is, e = control.Same(x.m, x.other, x.assume)
	put("Same", e, len(run) == 0 && !is)
	classes, e := control.Classes(x.m)
	put("Classes", e, len(classes) == 0)
	return out
}

// TestOrderOfErrors: everything is wrong in the first input, and one thing less in each one that follows.
func TestOrderOfErrors(t *testing.T) {
	x := input{assume: all(on(9)), never: all(on(9)), p: place(9), one: -1, inputs: make([]int, 201), l: make([]api.Place, 1001), text: string(make([]byte, 40001))}
	x.inputs[0], x.l[0].State = 9, 9
	want := map[string]api.Errno{}
	set := func(e api.Errno, names ...string) {
		for _, name := range names {
			want[name] = e
		}
	}
	expect := func() {
		t.Helper()
		for name, e := range errorsOf(x) {
			if e != want[name] {
				t.Errorf("%s: %d, want %d", name, e, want[name])
			}
		}
	}
	set(api.ErrMachine, "Check", "Format", "Step", "Run", "Reach", "Breach", "Stuck", "Proves", "Trap", "Same", "Classes")
	set(api.ErrMany, "Parse")
	expect()
	x.m, x.text = d(), "inputs i i\noutputs\n\n"
	set(api.OK, "Check", "Format", "Classes")
	set(api.ErrArg, "Step")
	set(api.ErrMany, "Run")
	set(api.ErrCond, "Reach", "Breach", "Stuck", "Proves", "Trap")
	set(api.ErrForm, "Parse")
	expect() // the second machine of Same is not valid
	x.other, x.inputs, x.text = ring(), x.inputs[:200], "inputs i i\noutputs\n"
	set(api.ErrCond, "Same")
	set(api.ErrArg, "Run")
	set(api.ErrMachine, "Parse")
	expect()
	x.assume, x.inputs, x.text = nil, x.inputs[1:], text
	set(api.OK, "Reach", "Run", "Parse")
	set(api.ErrArg, "Same")
	expect()
	x.never, x.p = nil, place(0)
	set(api.OK, "Breach", "Stuck", "Trap")
	set(api.ErrMany, "Proves")
	expect()
	x.l, x.one = x.l[:1000], 0
	set(api.OK, "Step")
	set(api.ErrArg, "Proves")
	expect()
	x.l, x.other = x.l[1:], d()
	set(api.OK, "Proves", "Same")
	expect()
}

// anyInput draws arguments most of which are nearly valid.
func anyInput(r *rand.Rand) input {
	limited := []int{math.MinInt, -1, 0, 1, 2, 3, 4, 7, 8, 15, 16, 40, 200, math.MaxInt}
	any := func(n int) int {
		if r.Intn(12) == 0 {
			return limited[r.Intn(len(limited))]
		}
		return r.Intn(max(1, n))
	}
	x := input{m: anyMachine(r, limits{3, 3, 2, 3, 5, 12})}
	x.other = copyMachine(x.m)
	if r.Intn(5) == 0 {
		x.other = anyMachine(r, small)
	}
	x.assume, x.never = anyCond(r, x.m, true), anyCond(r, x.m, true)
	x.l = anyPlaces(r, x.m, r.Intn(20))
	x.text, _ = control.Format(x.m)
	for range r.Intn(3) {
		x.text = garble(r, x.text)
	}
	x.p, x.one = place(any(len(x.m.States)), any(2), any(2)), any(8)
	for range r.Intn(8) {
		x.inputs = append(x.inputs, any(1<<len(x.m.Inputs)))
	}
	bad := api.Cond{{{Kind: any(6), Number: any(6), Value: any(3)}}}
	switch r.Intn(10) {
	case 0:
		spoil(r, &x.m)
	case 1:
		spoil(r, &x.other)
	case 2:
		x.assume = bad
	case 3:
		x.never = bad
	case 4:
		x.l = append(x.l, place(any(9), any(9), any(9)))
	case 5:
		x.l, x.inputs = make([]api.Place, 990+r.Intn(20)), make([]int, 195+r.Intn(10))
	}
	return x
}

func copyCond(c api.Cond) api.Cond {
	c = slices.Clone(c)
	for i, t := range c {
		c[i] = slices.Clone(t)
	}
	return c
}

// copyMachine shares no memory with m.
func copyMachine(m api.Machine) api.Machine {
	m.Inputs, m.Outputs, m.Counters = slices.Clone(m.Inputs), slices.Clone(m.Outputs), slices.Clone(m.Counters)
	m.States, m.Rules = slices.Clone(m.States), slices.Clone(m.Rules)
	for i, x := range m.Rules {
		m.Rules[i].When, m.Rules[i].Sets = copyCond(x.When), slices.Clone(x.Sets)
	}
	return m
}

// TestAnyArguments: whatever the arguments are, no function panics, changes them, or returns something beside an error, and the errors of all functions fit together.
func TestAnyArguments(t *testing.T) {
	r := rand.New(rand.NewSource(41))
	times := map[api.Errno]int{}
	for range 3000 {
		x := anyInput(r)
		before := x
		before.m, before.other = copyMachine(x.m), copyMachine(x.other)
		before.assume, before.never = copyCond(x.assume), copyCond(x.never)
		before.inputs, before.l = slices.Clone(x.inputs), slices.Clone(x.l)
		errors := errorsOf(x)
		if !reflect.DeepEqual(x, before) {
			t.Fatalf("%v is changed to %v", before, x)
		}
		first := errors["Check"]
		for name, e := range errors {
			own := name == "Parse" || name == "Same" && first == api.OK
			if e < 0 || !own && (first != api.OK && e != first || first == api.OK && e == api.ErrMachine) {
				t.Fatalf("%s(%v): %d", name, x, e)
			}
			times[e]++
		}
		if e := errors["Breach"]; errors["Stuck"] != e || errors["Trap"] != e || e == api.ErrCond && errors["Proves"] != e {
			t.Fatalf("%v: %v", x, errors)
		}
	}
	for _, e := range []api.Errno{api.OK, api.ErrArg, api.ErrMany, api.ErrForm, api.ErrMachine, api.ErrCond} {
		if times[e] < 50 {
			t.Errorf("the error %d came %d times", e, times[e])
		}
	}
}

// TestResultsAreNew is R4: what is done with a result changes no later one, nor an argument.
func TestResultsAreNew(t *testing.T) {
	m := d()
	for range 2 {
		if l, _ := control.Run(m, []int{1, 0}); slices.Equal(l, []api.Place{place(1), place(1, 1)}) {
			l[0] = place(9)
		} else {
			t.Errorf("Run = %v", l)
		}
		if l, _ := control.Reach(m, door()); slices.Equal(l, []api.Place{place(0)}) {
			l[0] = place(9)
		} else {
			t.Errorf("Reach = %v", l)
		}
		if run, _, _ := control.Breach(m, nil, long()); slices.Equal(run, []int{1, 0, 0}) {
			run[0] = 9
		} else {
			t.Errorf("Breach = %v", run)
		}
		if l, _ := control.Classes(m); slices.Equal(l, []int{0, 1, 2, 3, 0, 0}) {
			l[0] = 9
		} else {
			t.Errorf("Classes = %v", l)
		}
		n, _, _ := control.Parse(text)
		if written(n) != written(d()) {
			t.Errorf("Parse = %v", n)
		}
		n.Inputs = append(n.Inputs, "x")
		n.Inputs[0], n.Outputs[0], n.Counters[0].Max, n.States[0].Shows = "y", "y", 9, 9
		n.Rules[0].When[0][0], n.Rules[0].Sets[0] = on(9), zero(9)
	}
	if written(m) != written(d()) {
		t.Errorf("the machine is %v now", m)
	}
}
