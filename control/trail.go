package control

import (
	"slices"

	"newel/api"
)

// none stands for no situation, and for no element of a list.
const none = -1

// trail is what a search from a first one on has found, in order, and by which link each one was found first.
type trail[K comparable] struct {
	found []K
	links []link
}

// link is an input behind one that was found before.
type link struct{ before, input int }

// search finds all that inputs lead to, in order, up to the first one that is wanted, and reports whether there is one. To each one the links lead by the shortest run, of several by that with the lower input at the first place at which they differ.
func search[K comparable](first K, inputs int, goes func(at K, input int) (K, bool), wanted func(at K) bool) (t trail[K], is bool) {
	t = trail[K]{[]K{first}, []link{{}}}
	if wanted(first) {
		return t, true
	}
	seen := map[K]bool{first: true}
	for at := 0; at < len(t.found); at++ {
		for input := range inputs {
			to, possible := goes(t.found[at], input)
			if !possible || seen[to] {
				continue
			}
			seen[to] = true
			t.found = append(t.found, to)
			t.links = append(t.links, link{at, input})
			if wanted(to) {
				return t, true
			}
		}
	}
	return t, false
}

// run returns the inputs that lead to one that was found.
func (t trail[K]) run(to int) []int {
	var run []int
	for at := to; at != 0; at = t.links[at].before {
		run = append(run, t.links[at].input)
	}
	slices.Reverse(run)
	return run
}

// explore finds the situations that can be reached, up to the first one that is wanted.
func (m machine) explore(assume api.Cond, wanted func(p api.Place) bool) (trail[api.Place], bool) {
	goes := func(p api.Place, given int) (api.Place, bool) { return m.goes(assume, p, given) }
	return search(api.Place{}, m.choices(), goes, wanted)
}

func (m machine) reach(assume api.Cond) trail[api.Place] {
	t, _ := m.explore(assume, func(api.Place) bool { return false })
	return t
}

// breach returns the shortest run into a situation in which never holds.
func (m machine) breach(assume, never api.Cond) (run []int, is bool) {
	t, is := m.explore(assume, m.holdsIn(never))
	if !is {
		return nil, false
	}
	return t.run(len(t.found) - 1), true
}

// difference returns the shortest list of inputs behind which two machines do not show the same.
func difference(a, b machine, assume api.Cond) (inputs []int, is bool) {
	x, y := a.graph(assume), b.graph(nil)
	goes := func(at [2]int, input int) ([2]int, bool) {
		to := [2]int{x.next[at[0]][input], y.next[at[1]][input]}
		return to, to[0] != none
	}
	differ := func(at [2]int) bool { return a.shows(x.found[at[0]]) != b.shows(y.found[at[1]]) }
	t, is := search([2]int{}, a.choices(), goes, differ)
	if !is {
		return nil, false
	}
	return t.run(len(t.found) - 1), true
}
