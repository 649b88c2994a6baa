package halls_test

import (
	"math/rand"
	"slices"
	"testing"

	"newel/api"
	"newel/halls"
)

func played(t *testing.T, h api.Hall, d api.Day) [][]int {
	t.Helper()
	rows, e := halls.Play(h, d)
	if e != api.OK {
		t.Fatalf("Play(%v, %v): %d", h, d, e)
	}
	return rows
}

// mosts returns Most of each comb.
func mosts(t *testing.T, h api.Hall) [][]int {
	t.Helper()
	var lists [][]int
	for comb := range h.Combs {
		most, e := halls.Most(h, comb)
		if e != api.OK || len(most) != h.Until {
			t.Fatalf("Most(%v, %d) = %v, %d", h, comb, most, e)
		}
		lists = append(lists, most)
	}
	return lists
}

func overs(t *testing.T, h api.Hall) [][2]int {
	t.Helper()
	list, e := halls.Over(h)
	if e != api.OK {
		t.Fatalf("Over(%v): %d", h, e)
	}
	return list
}

// streams tells from the people before a comb how many come to it, and how many pass it, in each tick.
func streams(t *testing.T, h api.Hall, rows [][]int, comb int) (come, pass []int) {
	t.Helper()
	rates, e := halls.Rates(h, comb)
	if e != api.OK {
		t.Fatalf("Rates(%v, %d): %d", h, comb, e)
	}
	left := 0
	for tick, row := range rows {
		come = append(come, row[comb]-left)
		pass = append(pass, min(row[comb], rates[tick]))
		left = row[comb] - pass[tick]
	}
	return come, pass
}

// TestNoCombIsFuller is P6.11 on any days, within the limits.
func TestNoCombIsFuller(t *testing.T) {
	r := rand.New(rand.NewSource(81))
	for number := range 600 {
		s := []size{small, small, large, limits}[number%4]
		h := anyHall(r, s)
		most, x := mosts(t, h), textOf(h)
		for range 20 {
			d := anyDay(r, h)
			rows := played(t, h, d)
			for tick, row := range rows {
				for comb, people := range row {
					if people > most[comb][tick] {
						t.Fatalf("Play(%v, %v) = %v, but Most(%d) = %v", h, d, rows, comb, most[comb])
					}
				}
			}
			comb, from := r.Intn(len(h.Combs)), r.Intn(h.Until)
			to := from + r.Intn(h.Until-from)
			come, pass := streams(t, h, rows, comb)
			bound, e := halls.Come(h, comb, from, to)
			if e != api.OK || sum(come[from:to+1]) > bound {
				t.Fatalf("Come(%v, %d, %d, %d) = %d, %d, but %v come on the day %v", h, comb, from, to, bound, e, come, d)
			}
			if h.Until <= small.until && sum(pass[from:to+1]) > x.pass(comb, from, to) {
				t.Fatalf("Pass(%v, %d, %d, %d) = %d, but %v pass on the day %v", h, comb, from, to, x.pass(comb, from, to), pass, d)
			}
		}
	}
}

func sum(list []int) int {
	n := 0
	for _, x := range list {
		n += x
	}
	return n
}

// everyDay calls play with each day of a small hall on which its trains bring as many as they can, or as few, and the walking times are any
// ones of their spans in each tick.
func everyDay(h api.Hall, play func(d api.Day)) {
	d := api.Day{At: make([]int, len(h.Trains)), People: make([][]int, len(h.Trains)), Walks: make([][]int, len(h.Combs))}
	for number, train := range h.Trains {
		d.People[number] = make([]int, len(train.Crowds))
	}
	for comb := range h.Combs {
		d.Walks[comb] = make([]int, h.Until)
	}
	walks := func(number int) (*int, []int) {
		comb, tick := number/h.Until, number%h.Until
		walk := h.Combs[comb].Walk
		if h.Combs[comb].Next < 0 {
			walk.High = walk.Low // they are out
		}
		return &d.Walks[comb][tick], numbers(walk)
	}
	var choices []func() (*int, []int)
	for number, train := range h.Trains {
		choices = append(choices, func() (*int, []int) { return &d.At[number], numbers(train.At) })
		for crowd, c := range train.Crowds {
			ends := slices.Compact([]int{c.People.Low, c.People.High})
			choices = append(choices, func() (*int, []int) { return &d.People[number][crowd], ends })
		}
	}
	for number := range len(h.Combs) * h.Until {
		choices = append(choices, func() (*int, []int) { return walks(number) })
	}
	var choose func(number int)
	choose = func(number int) {
		if number == len(choices) {
			play(d)
			return
		}
		at, list := choices[number]()
		for _, *at = range list {
			choose(number + 1)
		}
	}
	choose(0)
}

func numbers(s api.Span) []int {
	var list []int
	for n := s.Low; n <= s.High; n++ {
		list = append(list, n)
	}
	return list
}

// TestAllDays is P6.11 and P6.12 with all days of small halls: nowhere are there more, and before the combs that are the Next of none there
// are just as many on one of them.
func TestAllDays(t *testing.T) {
	r := rand.New(rand.NewSource(82))
	sources, exact, fuller := 0, 0, 0
	for range 2000 {
		h := anyHall(r, tiny)
		most := mosts(t, h)
		greatest := make([][]int, len(h.Combs))
		for comb := range greatest {
			greatest[comb] = make([]int, h.Until)
		}
		everyDay(h, func(d api.Day) {
			for tick, row := range played(t, h, d) {
				for comb, people := range row {
					greatest[comb][tick] = max(greatest[comb][tick], people)
				}
			}
		})
		for comb := range h.Combs {
			first := !slices.ContainsFunc(h.Combs, func(c api.Comb) bool { return c.Next == comb })
			for tick, people := range greatest[comb] {
				if people > most[comb][tick] || first && people < most[comb][tick] {
					t.Fatalf("Most(%v, %d) = %v, but on all days %v", h, comb, most[comb], greatest[comb])
				}
				switch {
				case people < most[comb][tick]:
					fuller++
				case people > 0 && first:
					sources++
				case people > 0:
					exact++
				}
			}
		}
	}
	if min(sources, exact) < 100 || exact < fuller {
		t.Errorf("Most is told %d times for first combs; behind others it is told %d times, and %d times it is too much", sources, exact, fuller)
	}
}

// TestWitnessesAreThere is P6.12.
func TestWitnessesAreThere(t *testing.T) {
	r := rand.New(rand.NewSource(83))
	many := 0
	for number := range 400 {
		h := anyHall(r, []size{small, large, limits}[number%3])
		comb, tick := r.Intn(len(h.Combs)), r.Intn(h.Until)
		d, e := halls.Witness(h, comb, tick)
		if e == api.ErrNone {
			continue
		}
		most := mosts(t, h)[comb][tick]
		if rows := played(t, h, d); rows[tick][comb] != most || e != api.OK {
			t.Fatalf("Witness(%v, %d, %d) = %v, %d, but there are %v, not %d", h, comb, tick, d, e, rows[tick], most)
		}
		many += min(1, most)
	}
	if many < 100 {
		t.Errorf("only %d witnesses show people", many)
	}
}

// TestLimitsAreKept is P6.13.
func TestLimitsAreKept(t *testing.T) {
	r := rand.New(rand.NewSource(84))
	kept, close := 0, 0
	for number := range 800 {
		h := anyHall(r, []size{small, large}[number%2])
		for comb, most := range mosts(t, h) {
			h.Combs[comb].Limit = max(0, slices.Max(most)-r.Intn(30)/29)
		}
		over := overs(t, h)
		if len(over) > 0 {
			continue
		}
		kept++
		for range 10 {
			for _, row := range played(t, h, anyDay(r, h)) {
				for comb, people := range row {
					if people > h.Combs[comb].Limit {
						t.Fatalf("Over(%v) is empty, but there are %v", h, row)
					}
					if people > 0 && people == h.Combs[comb].Limit {
						close++
					}
				}
			}
		}
	}
	if min(kept, close) < 300 {
		t.Errorf("%d halls, %d combs at their limits", kept, close)
	}
}

// rated returns a hall in which a comb has the same Rate in all ticks.
func rated(h api.Hall, comb, rate int) api.Hall {
	h.Combs = slices.Clone(h.Combs)
	h.Combs[comb].Rate = rate
	h.Shifts = slices.DeleteFunc(slices.Clone(h.Shifts), func(s api.Shift) bool { return s.Comb == comb })
	return h
}

// TestNeedIsLeast is P6.14.
func TestNeedIsLeast(t *testing.T) {
	r := rand.New(rand.NewSource(85))
	above, never := 0, 0
	for number := range 600 {
		s := []size{small, large, limits}[number%3]
		h := anyHall(r, s)
		comb := r.Intn(len(h.Combs))
		least := slices.Max(mosts(t, rated(h, comb, api.MaxPeople))[comb])
		h.Combs[comb].Limit = max(0, least-s.people/4+r.Intn(2*s.people))
		keeps := func(rate int) bool {
			return slices.Max(mosts(t, rated(h, comb, rate))[comb]) <= h.Combs[comb].Limit
		}
		rate, e := halls.Need(h, comb)
		if e == api.ErrNone {
			never++
			if keeps(api.MaxPeople) {
				t.Fatalf("Need(%v, %d): %d", h, comb, e)
			}
			continue
		}
		if e != api.OK || !keeps(rate) || rate > 0 && keeps(rate-1) {
			t.Fatalf("Need(%v, %d) = %d, %d", h, comb, rate, e)
		}
		above += min(1, rate)
	}
	if min(above, never) < 50 {
		t.Errorf("%d times some have to pass, %d times nothing helps", above, never)
	}
}

// shut returns a hall in which a comb is shut for some ticks, by shifts.
func shut(t *testing.T, h api.Hall, comb, from, ticks int) api.Hall {
	t.Helper()
	if ticks == 0 {
		return h
	}
	rates, e := halls.Rates(h, comb)
	if e != api.OK {
		t.Fatalf("Rates(%v, %d): %d", h, comb, e)
	}
	shifts := slices.DeleteFunc(slices.Clone(h.Shifts), func(s api.Shift) bool {
		return s.Comb == comb && s.At >= from && s.At < from+ticks
	})
	if behind := from + ticks; behind < h.Until { // before the comb's own shifts there
		shifts = append([]api.Shift{{At: behind, Comb: comb, Rate: rates[behind]}}, shifts...)
	}
	shifts = append(shifts, api.Shift{At: from, Comb: comb})
	slices.SortStableFunc(shifts, func(a, b api.Shift) int { return a.At - b.At })
	h.Shifts = shifts
	return h
}

// TestGuardIsLeast is P6.15.
func TestGuardIsLeast(t *testing.T) {
	r := rand.New(rand.NewSource(86))
	for _, s := range []size{small, {combs: 8, until: 100, trains: 12, shifts: 18, people: 1000, walk: 20, rate: 200}} {
		helps, never := 0, 0
		for range 200 {
			h, comb, from := anyGuarded(r, s)
			guard, e := halls.Guard(h, comb, from)
			fewer := guard
			switch e {
			case api.OK:
				if over := overs(t, shut(t, h, comb, from, guard)); len(over) > 0 {
					t.Fatalf("Guard(%v, %d, %d) = %d, but %v are over", h, comb, from, guard, over)
				}
				helps += min(1, guard)
			case api.ErrNone:
				never++
				fewer = h.Until - from + 1
			default:
				t.Fatalf("Guard(%v, %d, %d): %d", h, comb, from, e)
			}
			for ticks := range fewer {
				if ticks < 20 || ticks > fewer-5 {
					if len(overs(t, shut(t, h, comb, from, ticks))) == 0 {
						t.Fatalf("Guard(%v, %d, %d) = %d, %d, but %d do", h, comb, from, guard, e, ticks)
					}
				}
			}
		}
		if min(helps, never) < 10 {
			t.Errorf("%v: %d times it helps, %d times nothing does", s, helps, never)
		}
	}
}

// TestNobodyIsLeft is P6.16.
func TestNobodyIsLeft(t *testing.T) {
	r := rand.New(rand.NewSource(87))
	early, last := 0, 0
	for number := range 600 {
		h := anyHall(r, []size{small, large, limits}[number%3])
		if number%5 == 0 { // nobody waits for ever
			h.Shifts = nil
			for comb := range h.Combs {
				h.Combs[comb].Rate = 1 + r.Intn(api.MaxPeople)
			}
		}
		empty, e := halls.Empty(h)
		if e != api.OK || empty < 0 || empty > h.Until {
			t.Fatalf("Empty(%v) = %d, %d", h, empty, e)
		}
		there := false
		for _, most := range mosts(t, h) {
			if slices.ContainsFunc(most[empty:], func(people int) bool { return people != 0 }) {
				t.Fatalf("Empty(%v) = %d, but Most is %v", h, empty, most)
			}
			there = there || empty > 0 && most[empty-1] > 0
		}
		if !there && empty > 0 {
			t.Fatalf("Empty(%v) = %d, but in the tick before there is nobody", h, empty)
		}
		for range 5 {
			for _, row := range played(t, h, anyDay(r, h))[empty:] {
				if sum(row) > 0 {
					t.Fatalf("Empty(%v) = %d, but there are %v", h, empty, row)
				}
			}
		}
		if empty == h.Until {
			last++
		} else if empty > 0 {
			early++
		}
	}
	if min(early, last) < 50 {
		t.Errorf("%d halls are empty early, %d at the end", early, last)
	}
}

// lesser returns a hall in which a train can come in fewer ticks, or brings fewer people.
func lesser(r *rand.Rand, h api.Hall) api.Hall {
	h.Trains = slices.Clone(h.Trains)
	train := &h.Trains[r.Intn(len(h.Trains))]
	within := func(s api.Span) api.Span { return anySpan(r, s.Low, s.High) }
	if len(train.Crowds) == 0 || r.Intn(2) == 0 {
		train.At = within(train.At)
		return h
	}
	train.Crowds = slices.Clone(train.Crowds)
	c := &train.Crowds[r.Intn(len(train.Crowds))]
	c.People = anySpan(r, 0, c.People.High)
	return h
}

// TestMostGrowsNowhere is P6.17.
func TestMostGrowsNowhere(t *testing.T) {
	r := rand.New(rand.NewSource(88))
	less := 0
	for number := range 900 {
		h := anyHall(r, []size{small, large, limits}[number%3])
		if len(h.Trains) == 0 {
			continue
		}
		other := lesser(r, h)
		before, behind := mosts(t, h), mosts(t, other)
		for comb, most := range behind {
			for tick, people := range most {
				if people > before[comb][tick] {
					t.Fatalf("Most of %d grows from %v to %v: %v, then %v", comb, before[comb], most, h, other)
				}
				if people < before[comb][tick] {
					less++
				}
			}
		}
	}
	if less < 1000 {
		t.Errorf("Most is less only %d times", less)
	}
}
