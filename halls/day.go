package halls

import "newel/api"

// play returns how many people are before each comb in each tick. Who passes walks for a tick at least: what is before a comb in a tick
// is known when the ticks before it are played.
func play(h api.Hall, d api.Day) [][]int {
	before := make([][]int, h.Until)
	for tick := range before {
		before[tick] = make([]int, len(h.Combs))
	}
	come := func(tick, comb, people int) {
		if tick < h.Until && comb >= 0 {
			before[tick][comb] += people
		}
	}
	for number, train := range h.Trains {
		for crowd, c := range train.Crowds {
			come(d.At[number], c.Comb, d.People[number][crowd])
		}
	}
	rates := allRates(h)
	for tick := range before {
		for comb, c := range h.Combs {
			passed := min(rates[comb][tick], before[tick][comb])
			times := d.Walks[comb]
			come(tick+1, comb, before[tick][comb]-passed)
			come(tick+times[tick%len(times)], c.Next, passed)
		}
	}
	return before
}

// fullest returns the first tick from which on so many come until another tick that Most are there then. There always is one: from this
// tick itself on no fewer than 0 come, and no more than Most; the 0 that is told for none is kept all the same.
func fullest(b bound, rates []int, tick int) int {
	gone := sums(rates)
	for from := range tick + 1 {
		if b.come[from][tick]-gone[tick]+gone[from] == b.most[tick] {
			return from
		}
	}
	return 0
}

// witness returns the day on which all trains that can come in some ticks do so, with as many people as there can be, and the others with
// as few.
func witness(h api.Hall, from, to int) api.Day {
	var d api.Day
	for _, t := range h.Trains {
		at := max(t.At.Low, from)
		full := at <= min(t.At.High, to)
		if !full {
			at = t.At.Low
		}
		d.At = append(d.At, at)
		d.People = append(d.People, people(t, full))
	}
	for _, c := range h.Combs {
		d.Walks = append(d.Walks, []int{c.Walk.Low})
	}
	return d
}

// people returns the greatest numbers of people of a train's crowds (full), or the least ones.
func people(t api.Train, full bool) []int {
	var list []int
	for _, c := range t.Crowds {
		if full {
			list = append(list, c.People.High)
		} else {
			list = append(list, c.People.Low)
		}
	}
	return list
}
