package circuit

import (
	"cmp"
	"slices"

	"newel/api"
)

// Shows returns the switches that a trial shows if each is stuck alone (P3.7).
func Shows(c api.Circuit, l []api.Trial, trial int) ([]int, api.Errno) {
	if e := checkTrials(c, l); e != api.OK {
		return nil, e
	}
	if !within(trial, 0, len(l)-1) {
		return nil, api.ErrArg
	}
	return members(shown(c, l[trial]), len(c.Switches)), api.OK
}

// Blind returns the switches that no trial shows (P3.7).
func Blind(c api.Circuit, l []api.Trial) ([]int, api.Errno) {
	if e := checkTrials(c, l); e != api.OK {
		return nil, e
	}
	seen := union(shownByEach(c, l), upTo(len(l)))
	return those(len(c.Switches), func(sw int) bool { return !has(seen, sw) }), api.OK
}

// Fewest returns the fewest trials that show all switches which all of them show (P3.8).
func Fewest(c api.Circuit, l []api.Trial) ([]int, api.Errno) {
	if e := checkTrials(c, l); e != api.OK {
		return nil, e
	}
	sets := shownByEach(c, l)
	fewest := upTo(len(l))
	all := union(sets, fewest)
	for some := range 1 << len(l) {
		trials := members(some, len(l))
		if union(sets, trials) == all && isBefore(trials, fewest) {
			fewest = trials
		}
	}
	return fewest, api.OK
}

func checkTrials(c api.Circuit, l []api.Trial) api.Errno {
	if e := Check(c); e != api.OK {
		return e
	}
	if len(l) > api.MaxTrials {
		return api.ErrMany
	}
	bad := func(t api.Trial) bool {
		return !isSet(t.Hazards, c.Hazards) || !within(t.Wire, 0, len(c.Wires)-1)
	}
	if slices.ContainsFunc(l, bad) {
		return api.ErrTrial
	}
	return api.OK
}

// shows reports whether a trial shows a set of switches that are stuck closed.
func shows(c api.Circuit, t api.Trial, closed int) bool {
	sound := plight{circuit: c, hazards: t.Hazards}
	stuck := plight{circuit: c, hazards: t.Hazards, closed: closed}
	return stuck.conducts(t.Wire) && !sound.conducts(t.Wire)
}

// shown returns the set of the switches that a trial shows if each is stuck alone.
func shown(c api.Circuit, t api.Trial) int {
	switches := 0
	for sw := range len(c.Switches) {
		if shows(c, t, alone(sw)) {
			switches |= alone(sw)
		}
	}
	return switches
}

func shownByEach(c api.Circuit, l []api.Trial) []int {
	sets := make([]int, len(l))
	for trial := range len(l) {
		sets[trial] = shown(c, l[trial])
	}
	return sets
}

// union returns the union of those sets whose numbers are listed.
func union(sets, numbers []int) int {
	all := 0
	for _, n := range numbers {
		all |= sets[n]
	}
	return all
}

func members(set, many int) []int {
	return those(many, func(number int) bool { return has(set, number) })
}

func upTo(many int) []int { return those(many, func(int) bool { return true }) }

func isBefore(a, b []int) bool {
	return cmp.Or(cmp.Compare(len(a), len(b)), slices.Compare(a, b)) < 0
}
