package control_test

import (
	"math"
	"math/rand"
	"slices"
	"strings"
	"testing"

	"newel/api"
	"newel/control"
)

// changed is the machine D, changed.
func changed(change func(m *api.Machine)) api.Machine {
	m := d()
	change(&m)
	return m
}

func TestCheck(t *testing.T) {
	for i, m := range []api.Machine{
		d(), ring(), largest(), states("a"), states("abcdefgh", "z", "az"),
		states("inputs", "outputs", "counter", "state", "rule", "anyone", "ifs", "n"),
		changed(func(m *api.Machine) { m.Rules = nil }),
		changed(func(m *api.Machine) { m.Rules[0].From = -1 }),
		changed(func(m *api.Machine) { m.States[0].Shows = 3 }),
		changed(func(m *api.Machine) { m.Counters[0].Max = 7 }),
		changed(func(m *api.Machine) { m.Rules[0].Sets = slices.Repeat([]api.Set{less(0)}, 4) }),
		changed(func(m *api.Machine) { m.Rules[0].When = slices.Repeat(api.Cond{slices.Repeat(api.Term{on(0)}, 6)}, 6) }),
		changed(func(m *api.Machine) { m.Rules[0].When = nil }),
		changed(func(m *api.Machine) { m.Rules[0].When = all(least(0, 2), least(0, 0), shown(1), on(1)) }),
	} {
		if e := control.Check(m); e != api.OK || !refCheck(m) {
			t.Errorf("%d: Check(%v) = %d", i, m, e)
		}
	}
}

// badNames are words that are no names.
func badNames() []string {
	return []string{"", "abcdefghi", "A", "a1", "a b", " a", "a\n", "ä", "a_", "`", "{", "\xff", "any", "to", "zero", "more", "less", "if", "yes", "no", strings.Repeat("a", 1000)}
}

func TestCheckNames(t *testing.T) {
	for i, s := range badNames() {
		for k, m := range []api.Machine{
			changed(func(m *api.Machine) { m.Inputs[1] = s }),
			changed(func(m *api.Machine) { m.Outputs[1] = s }),
			changed(func(m *api.Machine) { m.Counters[0].Name = s }),
			changed(func(m *api.Machine) { m.States[1].Name = s }),
		} {
			if e := control.Check(m); e != api.ErrMachine {
				t.Errorf("%d, %d: Check with the name %q: %d", i, k, s, e)
			}
		}
	}
}

// TestCheckNamesTwice puts each name of a machine in the place of each other one.
func TestCheckNamesTwice(t *testing.T) {
	names := func(m *api.Machine) []*string {
		return []*string{&m.Inputs[0], &m.Inputs[1], &m.Outputs[0], &m.Outputs[1], &m.Counters[0].Name, &m.States[0].Name, &m.States[1].Name}
	}
	for i := range 7 {
		for k := range 7 {
			m := changed(func(m *api.Machine) { *names(m)[i] = *names(m)[k] })
			if e := control.Check(m); (e == api.OK) != (i == k) || i != k && e != api.ErrMachine {
				t.Errorf("%d: Check with the name %q twice: %d", i, *names(&m)[i], e)
			}
		}
	}
}

func TestCheckRefuses(t *testing.T) {
	literal := func(l api.Literal) func(m *api.Machine) {
		return func(m *api.Machine) { m.Rules[1].When = api.Cond{{}, {on(0), l}} }
	}
	kind := func(kind, number, value int) func(m *api.Machine) {
		return literal(api.Literal{Kind: kind, Number: number, Value: value})
	}
	for i, change := range []func(m *api.Machine){
		func(m *api.Machine) { *m = api.Machine{} },
		func(m *api.Machine) { m.States = nil },
		func(m *api.Machine) { m.Rules, m.States = nil, nil },
		func(m *api.Machine) { m.Inputs = []string{"a", "b", "c", "d", "e"} },
		func(m *api.Machine) { m.Outputs = []string{"a", "b", "c", "d", "e", "f", "g"} },
		func(m *api.Machine) {
			m.Counters = []api.Counter{{Name: "a", Max: 2}, {Name: "b", Max: 2}, {Name: "c", Max: 2}}
		},
		func(m *api.Machine) { m.States = append(m.States, named(strings.Split("abcdefghijk", ""))...) },
		func(m *api.Machine) { m.Rules = slices.Repeat(m.Rules[:1], 41) },
		func(m *api.Machine) { m.Counters[0].Max = 8 },
		func(m *api.Machine) { *m = states("a"); m.Counters = []api.Counter{{Name: "n"}} },
		func(m *api.Machine) { *m = states("a"); m.Counters = []api.Counter{{Name: "n", Max: -1}} },
		func(m *api.Machine) { m.States[1].Shows = 4 },
		func(m *api.Machine) { m.States[1].Shows = -1 },
		func(m *api.Machine) { m.States[1].Shows = math.MaxInt },
		func(m *api.Machine) { m.States[1].Shows = math.MinInt },
		func(m *api.Machine) { m.Rules[1].From = 2 },
		func(m *api.Machine) { m.Rules[1].From = -2 },
		func(m *api.Machine) { m.Rules[1].To = 2 },
		func(m *api.Machine) { m.Rules[1].To = -1 },
		func(m *api.Machine) { m.Rules[1].Sets = slices.Repeat([]api.Set{zero(0)}, 5) },
		func(m *api.Machine) { m.Rules[1].Sets = []api.Set{zero(1)} },
		func(m *api.Machine) { m.Rules[1].Sets = []api.Set{zero(0), zero(-1)} },
		func(m *api.Machine) { m.Rules[1].Sets = []api.Set{{}} },
		func(m *api.Machine) { m.Rules[1].Sets = []api.Set{{Kind: 4}} },
		func(m *api.Machine) { m.Rules[1].Sets = []api.Set{{Kind: -1}} },
		func(m *api.Machine) { m.Rules[1].When = make(api.Cond, 7) },
		func(m *api.Machine) { m.Rules[1].When = api.Cond{{}, slices.Repeat(api.Term{on(0)}, 7)} },
		literal(in(0)), literal(in(1)), literal(not(in(0))), literal(in(2)),
		kind(0, 0, 0), kind(5, 0, 0), kind(-1, 0, 0),
		kind(1, 2, 0), kind(1, -1, 0), kind(1, 0, 1), kind(1, 0, -1),
		kind(2, 1, 0), kind(2, -1, 0), kind(2, 0, 3), kind(2, 0, -1),
		kind(4, 2, 0), kind(4, -1, 0), kind(4, 0, 1), kind(4, 0, -1),
		kind(math.MaxInt, math.MinInt, math.MaxInt), kind(2, math.MaxInt, math.MinInt),
	} {
		m := changed(change)
		if e := control.Check(m); e != api.ErrMachine || refCheck(m) {
			t.Errorf("%d: Check(%v) = %d", i, m, e)
		}
	}
}

func TestConditions(t *testing.T) {
	for i, x := range []struct {
		c api.Cond
		e api.Errno
	}{
		{nil, api.OK},
		{make(api.Cond, 6), api.OK},
		{make(api.Cond, 7), api.ErrCond},
		{api.Cond{{}, slices.Repeat(api.Term{on(0)}, 6)}, api.OK},
		{api.Cond{{}, slices.Repeat(api.Term{on(0)}, 7)}, api.ErrCond},
		{all(in(1)), api.OK}, // a condition that is no rule's may ask for states
		{all(in(2)), api.ErrCond},
		{all(in(-1)), api.ErrCond},
		{all(api.Literal{Kind: 3, Value: 1}), api.ErrCond},
		{all(on(1)), api.OK},
		{all(on(2)), api.ErrCond},
		{all(on(0), on(-1)), api.ErrCond},
		{all(api.Literal{Kind: 1, Value: 1}), api.ErrCond},
		{all(shown(1)), api.OK},
		{all(shown(2)), api.ErrCond},
		{all(api.Literal{Kind: 4, Value: -1}), api.ErrCond},
		{all(least(0, 2)), api.OK},
		{all(least(0, 3)), api.ErrCond},
		{all(least(0, -1)), api.ErrCond},
		{all(least(1, 0)), api.ErrCond},
		{when(nil, nil, api.Term{{}}), api.ErrCond},
		{all(api.Literal{Kind: 5}), api.ErrCond},
	} {
		for name, e := range errorsOf(input{m: d(), other: d(), assume: x.c, inputs: []int{}}) {
			if asks(name) && e != x.e {
				t.Errorf("%d: %s with the Assume %v: %d, want %d", i, name, x.c, e, x.e)
			}
		}
		for name, e := range errorsOf(input{m: d(), other: d(), never: x.c, inputs: []int{}}) {
			if asks(name) && name != "Reach" && name != "Same" && e != x.e {
				t.Errorf("%d: %s with the never %v: %d, want %d", i, name, x.c, e, x.e)
			}
		}
	}
}

// asks reports whether a function takes conditions.
func asks(name string) bool {
	return slices.Contains([]string{"Reach", "Breach", "Stuck", "Proves", "Trap", "Same"}, name)
}

// spoil changes a machine at one place.
func spoil(r *rand.Rand, m *api.Machine) {
	any := func(most int) int { return r.Intn(most+3) - 1 }
	name := func() string {
		s := append(badNames(), m.Inputs...)
		return append(s, "x", m.States[0].Name)[r.Intn(len(s)+2)]
	}
	var x api.Rule
	if len(m.Rules) > 0 {
		x = m.Rules[r.Intn(len(m.Rules))]
	}
	switch r.Intn(10) {
	case 0:
		m.Inputs = append(m.Inputs, name())
	case 1:
		m.Outputs = append(m.Outputs, name())
	case 2:
		m.Counters = append(m.Counters, api.Counter{Name: name(), Max: any(7)})
	case 3:
		m.States[r.Intn(len(m.States))] = api.State{Name: name(), Shows: any(1 << len(m.Outputs))}
	case 4:
		x.From, x.To = any(len(m.States)), any(len(m.States))
	case 5:
		x.When = append(slices.Clone(x.When), api.Term{{Kind: any(4), Number: any(4), Value: any(3) / 2}})
	case 6:
		x.Sets = append(slices.Clone(x.Sets), api.Set{Kind: any(3), Counter: any(len(m.Counters))})
	case 7:
		m.Counters = m.Counters[:len(m.Counters)/2]
	case 8:
		m.States = m.States[:len(m.States)-1]
	case 9:
		m.Inputs = m.Inputs[:len(m.Inputs)/2]
	}
	m.Rules = append(m.Rules, x)
}

func TestCheckIsAsTheTextSays(t *testing.T) {
	r := rand.New(rand.NewSource(3))
	bad := 0
	for range 20000 {
		m := anyMachine(r, limits{4, 6, 2, 7, 12, 6})
		if e := control.Check(m); e != api.OK {
			t.Fatalf("Check(%v) = %d", m, e)
		}
		spoil(r, &m)
		e := control.Check(m)
		if want := refCheck(m); want != (e == api.OK) || !want && e != api.ErrMachine {
			t.Fatalf("Check(%v) = %d, want %v", m, e, want)
		}
		if e != api.OK {
			bad++
		}
	}
	if bad < 5000 || bad > 18000 {
		t.Errorf("%d of 20000 are not valid", bad)
	}
}
