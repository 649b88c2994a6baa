package halls

import "newel/api"

// maxLimit is the greatest Limit of a comb; package api has no name for it.
const maxLimit = 100000

func within(n, low, high int) bool { return low <= n && n <= high }

func isSpan(s api.Span, low, high int) bool {
	return within(s.Low, low, high) && within(s.High, s.Low, high)
}

// all reports whether something is so for each number below count.
func all(count int, is func(number int) bool) bool {
	for number := range count {
		if !is(number) {
			return false
		}
	}
	return true
}

// checked returns ErrHall unless a hall is valid, then ErrArg unless it has the comb and the ticks.
func checked(h api.Hall, comb int, ticks ...int) api.Errno {
	if !isHall(h) {
		return api.ErrHall
	}
	are := all(len(ticks), func(number int) bool { return within(ticks[number], 0, h.Until-1) })
	if !are || !within(comb, 0, len(h.Combs)-1) {
		return api.ErrArg
	}
	return api.OK
}

func isHall(h api.Hall) bool {
	return within(h.Until, 1, api.MaxUntil) && areCombs(h.Combs) && areTrains(h) && areShifts(h)
}

func areCombs(combs []api.Comb) bool {
	isComb := func(number int) bool {
		c := combs[number]
		leads := c.Next == -1 || within(c.Next, number+1, len(combs)-1)
		return leads && within(c.Rate, 0, api.MaxPeople) && within(c.Limit, 0, maxLimit) && isSpan(c.Walk, 1, api.MaxWalking)
	}
	return within(len(combs), 1, api.MaxCombs) && all(len(combs), isComb)
}

func areTrains(h api.Hall) bool {
	isTrain := func(number int) bool {
		t := h.Trains[number]
		return isSpan(t.At, 0, h.Until-1) && areCrowds(t.Crowds, len(h.Combs))
	}
	return len(h.Trains) <= api.MaxTrains && all(len(h.Trains), isTrain)
}

func areCrowds(crowds []api.Crowd, combs int) bool {
	least := 0
	for _, c := range crowds {
		if !within(c.Comb, least, combs-1) || !isSpan(c.People, 0, api.MaxPeople) {
			return false
		}
		least = c.Comb + 1
	}
	return len(crowds) <= api.MaxCrowds
}

func areShifts(h api.Hall) bool {
	least := 0
	for _, s := range h.Shifts {
		if !within(s.At, least, h.Until-1) || !within(s.Comb, 0, len(h.Combs)-1) || !within(s.Rate, 0, api.MaxPeople) {
			return false
		}
		least = s.At
	}
	return len(h.Shifts) <= api.MaxShifts
}

// isDay reports whether a day is one of a valid hall.
func isDay(h api.Hall, d api.Day) bool {
	if len(d.At) != len(h.Trains) || len(d.People) != len(h.Trains) || len(d.Walks) != len(h.Combs) {
		return false
	}
	comes := func(number int) bool {
		at := h.Trains[number].At
		return within(d.At[number], at.Low, at.High) && areCounts(h.Trains[number].Crowds, d.People[number])
	}
	walks := func(comb int) bool { return areWalks(h.Combs[comb].Walk, d.Walks[comb]) }
	return all(len(h.Trains), comes) && all(len(h.Combs), walks)
}

// areCounts reports whether there is one number of people for each crowd, and of its span.
func areCounts(crowds []api.Crowd, people []int) bool {
	return len(people) == len(crowds) && all(len(crowds), func(number int) bool {
		span := crowds[number].People
		return within(people[number], span.Low, span.High)
	})
}

func areWalks(span api.Span, times []int) bool {
	return within(len(times), 1, api.MaxWalking) && all(len(times), func(number int) bool {
		return within(times[number], span.Low, span.High)
	})
}
