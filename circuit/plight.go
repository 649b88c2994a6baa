package circuit

import (
	"slices"

	"newel/api"
)

// maxOf is of how many wires one is made at the most; package api has no name for it.
const maxOf = 8

func within(n, low, high int) bool { return low <= n && n <= high }

// alone returns the set that has just this number.
func alone(number int) int { return 1 << number }

func has(set, number int) bool { return set>>number&1 == 1 }

// isSet reports whether n is a set of some of so many.
func isSet(n, many int) bool { return within(n, 0, 1<<many-1) }

// those returns the numbers below many of which is says so, in ascending order.
func those(many int, is func(number int) bool) []int {
	var l []int
	for number := range many {
		if is(number) {
			l = append(l, number)
		}
	}
	return l
}

func every(l []int, is func(number int) bool) bool {
	return !slices.ContainsFunc(l, func(number int) bool { return !is(number) })
}

// ascend reports whether numbers are from low to high, and ascend strictly.
func ascend(l []int, low, high int) bool {
	for _, n := range l {
		if !within(n, low, high) {
			return false
		}
		low = n + 1
	}
	return true
}

func isWire(c api.Circuit, wire int) bool {
	w := c.Wires[wire]
	switch w.Kind {
	case api.Single:
		return len(w.Of) == 1 && within(w.Of[0], 0, len(c.Switches)-1)
	case api.Series, api.Parallel:
		return within(len(w.Of), 1, maxOf) && ascend(w.Of, wire+1, len(c.Wires)-1)
	}
	return false
}

// areJoined reports whether each wire is in just one other, but the wire 0, which is in none as its number is the least. Each wire must be as it should be by itself.
func areJoined(c api.Circuit) bool {
	var in [api.MaxWires]int
	for _, w := range c.Wires {
		if w.Kind == api.Single {
			continue
		}
		for _, part := range w.Of {
			in[part]++
		}
	}
	return !slices.ContainsFunc(in[1:len(c.Wires)], func(others int) bool { return others != 1 })
}

// plight is a circuit with the hazards that are present, and the switches that are stuck closed and stuck open.
type plight struct {
	circuit               api.Circuit
	hazards, closed, open int
}

func (p plight) lets(sw int) bool {
	return !has(p.open, sw) && (has(p.closed, sw) || p.circuit.Switches[sw]&p.hazards == 0)
}

// conducts comes to an end, since a wire is made only of wires with greater numbers.
func (p plight) conducts(wire int) bool {
	w := p.circuit.Wires[wire]
	switch w.Kind {
	case api.Single:
		return p.lets(w.Of[0])
	case api.Series:
		return every(w.Of, p.conducts)
	}
	return slices.ContainsFunc(w.Of, p.conducts)
}

// passes reports whether the machine runs with hazards, if switches are stuck closed and none is stuck open.
func passes(c api.Circuit, hazards, closed int) bool {
	return plight{circuit: c, hazards: hazards, closed: closed}.conducts(0)
}

// weak returns the hazards with each of which alone the machine runs.
func weak(c api.Circuit, closed int) []int {
	return those(c.Hazards, func(hazard int) bool { return passes(c, alone(hazard), closed) })
}

func isDangerous(c api.Circuit, closed int) bool { return len(weak(c, closed)) > 0 }
