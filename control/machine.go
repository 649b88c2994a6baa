package control

import (
	"slices"

	"newel/api"
)

// anyState is the From of a rule that leads from any state.
const anyState = -1

// machine is a machine that is valid, and what it hears when it gets a real input.
type machine struct {
	api.Machine
	hears func(given int) int
}

// checked returns a machine, unless it is not valid, or one of the conditions is not valid for it.
func checked(m api.Machine, conds ...api.Cond) (machine, api.Errno) {
	if !isMachine(m) {
		return machine{}, api.ErrMachine
	}
	for _, c := range conds {
		if !isCond(m, c) {
			return machine{}, api.ErrCond
		}
	}
	return machine{m, func(given int) int { return given }}, api.OK
}

// stuckAt returns what a machine hears if an input is stuck at a value.
func stuckAt(input, value int) func(given int) int {
	return func(given int) int { return given&^(1<<input) | value<<input }
}

// choices returns how many inputs a step may get: they are the numbers below it.
func (m machine) choices() int { return 1 << len(m.Inputs) }

func (m machine) isInput(input int) bool { return within(input, 0, m.choices()-1) }

func (m machine) isPlace(p api.Place) bool {
	for i, value := range p.Values {
		most := 0
		if i < len(m.Counters) {
			most = m.Counters[i].Max
		}
		if !within(value, 0, most) {
			return false
		}
	}
	return within(p.State, 0, len(m.States)-1)
}

func (m machine) shows(p api.Place) int { return m.States[p.State].Shows }

// step returns the situation behind a step with a real input.
func (m machine) step(p api.Place, given int) api.Place {
	heard := m.hears(given)
	for _, r := range m.Rules {
		if (r.From == anyState || r.From == p.State) && m.holds(r.When, p, heard) {
			return m.behind(r, p)
		}
	}
	return p
}

// behind returns the situation behind a rule that is carried out.
func (m machine) behind(r api.Rule, p api.Place) api.Place {
	p.State = r.To
	for _, s := range r.Sets {
		value := p.Values[s.Counter]
		switch s.Kind {
		case api.Zero:
			value = 0
		case api.More:
			value = min(value+1, m.Counters[s.Counter].Max)
		case api.Less:
			value = max(value-1, 0)
		}
		p.Values[s.Counter] = value
	}
	return p
}

func (m machine) holds(c api.Cond, p api.Place, input int) bool {
	is := func(l api.Literal) bool { return m.answers(l, p, input) != l.Not }
	return slices.ContainsFunc(c, func(t api.Term) bool { return every(t, is) })
}

// answers reports what the answer to the question of a literal is, without its Not.
func (m machine) answers(l api.Literal, p api.Place, input int) bool {
	switch l.Kind {
	case api.Input:
		return has(input, l.Number)
	case api.Least:
		return p.Values[l.Number] >= l.Value
	case api.In:
		return p.State == l.Number
	}
	return has(m.shows(p), l.Number)
}

// holdsIn returns whether a condition holds in a situation; questions about inputs are asked with the input 0.
func (m machine) holdsIn(c api.Cond) func(p api.Place) bool {
	return func(p api.Place) bool { return m.holds(c, p, 0) }
}

// goes returns the situation behind a step with a real input, and whether this is possible.
func (m machine) goes(assume api.Cond, p api.Place, given int) (api.Place, bool) {
	if len(assume) > 0 && !m.holds(assume, p, given) {
		return api.Place{}, false
	}
	return m.step(p, given), true
}

// leaves reports whether a possible input leads from a situation to one that is not listed.
func (m machine) leaves(assume api.Cond, p api.Place, listed map[api.Place]bool) bool {
	for given := range m.choices() {
		if to, possible := m.goes(assume, p, given); possible && !listed[to] {
			return true
		}
	}
	return false
}
