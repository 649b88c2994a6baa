package halls

import "newel/api"

// bound is what is known of a comb: most in each tick, come and pass for the ticks from the first index to the second one.
type bound struct {
	come, pass [][]int
	most       []int
}

// rates returns the Rate of a comb in each tick: the shifts are in order, so that each one counts until the next one of this comb.
func rates(h api.Hall, comb int) []int {
	list := make([]int, h.Until)
	for tick := range list {
		list[tick] = h.Combs[comb].Rate
	}
	for _, s := range h.Shifts {
		if s.Comb != comb {
			continue
		}
		for tick := s.At; tick < h.Until; tick++ {
			list[tick] = s.Rate
		}
	}
	return list
}

// allRates returns the Rates of each comb.
func allRates(h api.Hall) [][]int {
	lists := make([][]int, len(h.Combs))
	for comb := range lists {
		lists[comb] = rates(h, comb)
	}
	return lists
}

// bounds returns the bounds of each comb if they have these Rates. Each comb leads to a later one only, so that in their order the bounds
// of those that lead to one are known.
func bounds(h api.Hall, rates [][]int) []bound {
	known := make([]bound, len(h.Combs))
	for comb := range known {
		come := comes(h, known, comb)
		most := crowd(come, rates[comb])
		known[comb] = bound{come: come, most: most}
		if h.Combs[comb].Next >= 0 { // of the others nobody asks who passes
			known[comb].pass = passes(come, most, rates[comb])
		}
	}
	return known
}

// table returns a table for the ticks from one to another one; what begins behind the last tick is in it, too.
func table(until int) [][]int {
	rows := make([][]int, until+1)
	cells := make([]int, len(rows)*until)
	for from := range rows {
		rows[from] = cells[from*until : (from+1)*until]
	}
	return rows
}

// comes returns the bounds Come of a comb.
func comes(h api.Hall, known []bound, comb int) [][]int {
	come := table(h.Until)
	for _, train := range h.Trains {
		for _, c := range train.Crowds {
			if c.Comb == comb {
				bring(come, train.At, c.People.High)
			}
		}
	}
	for before, c := range h.Combs {
		if c.Next == comb {
			lead(come, known[before].pass, c.Walk)
		}
	}
	return come
}

// bring adds people of a train to all ticks in which it can come.
func bring(come [][]int, at api.Span, people int) {
	for from := range at.High + 1 {
		for to := max(from, at.Low); to < len(come[from]); to++ {
			come[from][to] += people
		}
	}
}

// lead adds those who pass the comb before, and walk from there.
func lead(come, pass [][]int, walk api.Span) {
	for from := range come {
		for to := max(from, walk.Low); to < len(come[from]); to++ {
			come[from][to] += pass[max(from-walk.High, 0)][to-walk.Low]
		}
	}
}

// crowd returns the bounds Most of a comb to which come so many.
func crowd(come [][]int, rates []int) []int {
	most := make([]int, len(rates))
	gone := sums(rates)
	for tick := range most {
		for from := range tick + 1 {
			most[tick] = max(most[tick], come[from][tick]-gone[tick]+gone[from])
		}
	}
	return most
}

// passes returns the bounds Pass of a comb. What is the least over all k is told from the last one on, as the sum of Flow from from to
// k - 1 is the one from 0 on, less the one up to from, which is the same for all k.
func passes(come [][]int, most, rates []int) [][]int {
	pass := table(len(rates))
	flow := make([]int, len(rates))
	for tick := range flow {
		flow[tick] = min(rates[tick], most[tick])
	}
	gone := sums(flow)
	for to := range rates {
		least := gone[to+1]
		for from := to; from >= 0; from-- {
			least = min(least, gone[from]+most[from]+come[from+1][to])
			pass[from][to] = min(come[0][to], least-gone[from])
		}
	}
	return pass
}

// sums returns the sum of the numbers before each tick, and before the end.
func sums(list []int) []int {
	before := make([]int, len(list)+1)
	for tick, n := range list {
		before[tick+1] = before[tick] + n
	}
	return before
}

// over returns the combs before which there can be more than their Limit, and since when.
func over(h api.Hall, known []bound) [][2]int {
	var list [][2]int
	for comb, b := range known {
		if tick := above(b.most, h.Combs[comb].Limit); tick >= 0 {
			list = append(list, [2]int{comb, tick})
		}
	}
	return list
}
