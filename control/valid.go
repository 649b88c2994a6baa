package control

import (
	"slices"

	"newel/api"
)

func within(n, low, high int) bool { return low <= n && n <= high }

func has(set, number int) bool { return set>>number&1 == 1 }

func every[T any](l []T, is func(x T) bool) bool {
	return !slices.ContainsFunc(l, func(x T) bool { return !is(x) })
}

func itself(name string) string        { return name }
func counterName(c api.Counter) string { return c.Name }
func stateName(s api.State) string     { return s.Name }

// find returns the number of the first element that has a name, or none.
func find[T any](l []T, nameOf func(x T) string, name string) int {
	return slices.IndexFunc(l, func(x T) bool { return nameOf(x) == name })
}

func isMachine(m api.Machine) bool {
	return areFew(m) && areNames(m) &&
		every(m.Counters, func(c api.Counter) bool { return within(c.Max, 1, api.MaxCount) }) &&
		every(m.States, func(s api.State) bool { return within(s.Shows, 0, 1<<len(m.Outputs)-1) }) &&
		every(m.Rules, func(r api.Rule) bool { return isRule(m, r) })
}

// areFew reports whether there are as many of all parts of a machine as there may be.
func areFew(m api.Machine) bool {
	return len(m.Inputs) <= api.MaxInputs && len(m.Outputs) <= api.MaxOutputs && len(m.Counters) <= api.MaxCounters &&
		within(len(m.States), 1, api.MaxStates) && len(m.Rules) <= api.MaxRules
}

// areNames reports whether each name of a machine is one, and the first one that is so.
func areNames(m api.Machine) bool {
	names := slices.Concat(m.Inputs, m.Outputs)
	for _, c := range m.Counters {
		names = append(names, c.Name)
	}
	for _, s := range m.States {
		names = append(names, s.Name)
	}
	for i, name := range names {
		if len(name) > api.MaxName || !isName(name) || find(names, itself, name) != i {
			return false
		}
	}
	return true
}

// isName reports whether a word may be a name in the language, where it may have any length.
func isName(word string) bool {
	letter := func(b byte) bool { return 'a' <= b && b <= 'z' }
	return word != "" && !isKept(word) && every([]byte(word), letter)
}

// isKept reports whether the language keeps a word for itself, such that it is no name.
func isKept(word string) bool {
	switch word {
	case "any", "to", "zero", "more", "less", "if", "yes", "no":
		return true
	}
	return false
}

func isRule(m api.Machine, r api.Rule) bool {
	isIn := func(l api.Literal) bool { return l.Kind == api.In }
	return within(r.From, anyState, len(m.States)-1) && within(r.To, 0, len(m.States)-1) && isCond(m, r.When) &&
		!slices.ContainsFunc(r.When, func(t api.Term) bool { return slices.ContainsFunc(t, isIn) }) &&
		len(r.Sets) <= api.MaxSets && every(r.Sets, func(s api.Set) bool { return isSet(m, s) })
}

func isSet(m api.Machine, s api.Set) bool {
	return within(s.Kind, api.Zero, api.Less) && within(s.Counter, 0, len(m.Counters)-1)
}

func isCond(m api.Machine, c api.Cond) bool {
	is := func(l api.Literal) bool { return isLiteral(m, l) }
	return len(c) <= api.MaxTerms && every(c, func(t api.Term) bool { return len(t) <= api.MaxLiterals && every(t, is) })
}

func isLiteral(m api.Machine, l api.Literal) bool {
	many, most := 0, 0
	switch l.Kind {
	case api.Input:
		many = len(m.Inputs)
	case api.Least:
		many = len(m.Counters)
	case api.In:
		many = len(m.States)
	case api.Shown:
		many = len(m.Outputs)
	}
	if !within(l.Number, 0, many-1) {
		return false
	}
	if l.Kind == api.Least {
		most = m.Counters[l.Number].Max
	}
	return within(l.Value, 0, most)
}
