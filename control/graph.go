package control

import "newel/api"

// graph is all situations that can be reached, and in next, for each of them and each input, the number of the one behind it: none, if the input is not possible.
type graph struct {
	trail[api.Place]
	next [][]int
}

func (m machine) graph(assume api.Cond) graph {
	g := graph{trail: m.reach(assume)}
	numbers := map[api.Place]int{}
	for i, p := range g.found {
		numbers[p] = i
	}
	for _, p := range g.found {
		var row []int
		for given := range m.choices() {
			number := none
			if to, possible := m.goes(assume, p, given); possible {
				number = numbers[to]
			}
			row = append(row, number)
		}
		g.next = append(g.next, row)
	}
	return g
}

// leadTo returns of each situation whether some run leads from it to a goal.
func (g graph) leadTo(isGoal func(p api.Place) bool) []bool {
	leads := make([]bool, len(g.found))
	for i, p := range g.found {
		leads[i] = isGoal(p)
	}
	for grows := true; grows; {
		grows = false
		for i := range g.found {
			if !leads[i] && g.leadsOn(i, leads) {
				leads[i], grows = true, true
			}
		}
	}
	return leads
}

// leadsOn reports whether an input leads from a situation to one that leads to a goal.
func (g graph) leadsOn(at int, leads []bool) bool {
	for _, to := range g.next[at] {
		if to != none && leads[to] {
			return true
		}
	}
	return false
}

// view is the class of a situation, and of those behind each input.
type view [1 + 1<<api.MaxInputs]int

// part returns finer classes: of situations whose views are the same.
func (g graph) part(classes []int) []int {
	views := make([]view, len(g.found))
	for i, row := range g.next {
		views[i][0] = classes[i]
		for input, to := range row {
			views[i][1+input] = classes[to]
		}
	}
	return numbered(views)
}

// numbered returns a number for each element, the same for those that are equal, from 0 on in the order of the first ones.
func numbered[K comparable](l []K) []int {
	numbers := map[K]int{}
	var out []int
	for _, x := range l {
		number, is := numbers[x]
		if !is {
			number = len(numbers)
			numbers[x] = number
		}
		out = append(out, number)
	}
	return out
}
