package halls_test

import (
	"math/rand"
	"slices"
	"testing"

	"newel/api"
	"newel/halls"
)

// The functions below say the chapter's text again, in other ways than the program does: the bounds by calling each other as they are
// told, a day person by person.

// text is a hall of which a comb may be shut for some ticks.
type text struct {
	h                 api.Hall
	shut, from, ticks int
	known             map[[4]int]int
}

func textOf(h api.Hall) *text { return &text{h: h, shut: -1, known: map[[4]int]int{}} }

// once tells a number only once, as many others are told by it.
func (x *text) once(kind, comb, a, b int, tell func() int) int {
	key := [4]int{kind, comb, a, b}
	n, is := x.known[key]
	if !is {
		n = tell()
		x.known[key] = n
	}
	return n
}

func (x *text) rate(comb, tick int) int {
	if comb == x.shut && tick >= x.from && tick < x.from+x.ticks {
		return 0
	}
	for _, s := range slices.Backward(x.h.Shifts) {
		if s.Comb == comb && s.At <= tick {
			return s.Rate
		}
	}
	return x.h.Combs[comb].Rate
}

func (x *text) come(comb, from, to int) int {
	if from > to {
		return 0
	}
	return x.once(1, comb, from, to, func() int {
		sum := 0
		for _, train := range x.h.Trains {
			can := false
			for tick := from; tick <= to; tick++ {
				can = can || train.At.Low <= tick && tick <= train.At.High
			}
			for _, c := range train.Crowds {
				if can && c.Comb == comb {
					sum += c.People.High
				}
			}
		}
		for u, c := range x.h.Combs {
			if c.Next == comb {
				sum += x.pass(u, from-c.Walk.High, to-c.Walk.Low)
			}
		}
		return sum
	})
}

func (x *text) most(comb, tick int) int {
	return x.once(2, comb, tick, 0, func() int {
		greatest := 0
		for s := 0; s <= tick; s++ {
			n := x.come(comb, s, tick)
			for k := s; k < tick; k++ {
				n -= x.rate(comb, k)
			}
			greatest = max(greatest, n)
		}
		return greatest
	})
}

// flow is the sum of Flow in some ticks.
func (x *text) flow(comb, from, to int) int {
	sum := 0
	for tick := from; tick <= to; tick++ {
		sum += min(x.rate(comb, tick), x.most(comb, tick))
	}
	return sum
}

func (x *text) pass(comb, a, b int) int {
	if b < a || b < 0 {
		return 0
	}
	a = max(a, 0)
	return x.once(3, comb, a, b, func() int {
		least := min(x.come(comb, 0, b), x.flow(comb, a, b))
		for k := a; k <= b; k++ {
			least = min(least, x.flow(comb, a, k-1)+x.most(comb, k)+x.come(comb, k+1, b))
		}
		return least
	})
}

func (x *text) mosts(comb int) []int {
	var list []int
	for tick := range x.h.Until {
		list = append(list, x.most(comb, tick))
	}
	return list
}

func (x *text) over() [][2]int {
	var list [][2]int
	for comb, c := range x.h.Combs {
		for tick := range x.h.Until {
			if x.most(comb, tick) > c.Limit {
				list = append(list, [2]int{comb, tick})
				break
			}
		}
	}
	return list
}

func (x *text) witness(comb, tick int) api.Day {
	s := -1
	for from := tick; from >= 0; from-- {
		n := x.come(comb, from, tick)
		for k := from; k < tick; k++ {
			n -= x.rate(comb, k)
		}
		if n == x.most(comb, tick) {
			s = from
		}
	}
	var d api.Day
	for _, train := range x.h.Trains {
		at, full := train.At.Low, false
		for k := tick; k >= s; k-- {
			if train.At.Low <= k && k <= train.At.High {
				at, full = k, true
			}
		}
		var people []int
		for _, c := range train.Crowds {
			if full {
				people = append(people, c.People.High)
			} else {
				people = append(people, c.People.Low)
			}
		}
		d.At, d.People = append(d.At, at), append(d.People, people)
	}
	for _, c := range x.h.Combs {
		d.Walks = append(d.Walks, []int{c.Walk.Low})
	}
	return d
}

// need tries all Rates, also behind one with which the comb is not above its Limit.
func need(h api.Hall, comb, most int) (int, bool) {
	h.Combs = slices.Clone(h.Combs)
	h.Shifts = slices.DeleteFunc(slices.Clone(h.Shifts), func(s api.Shift) bool { return s.Comb == comb })
	for rate := 0; rate <= most; rate++ {
		h.Combs[comb].Rate = rate
		if slices.Max(textOf(h).mosts(comb)) <= h.Combs[comb].Limit {
			return rate, true
		}
	}
	return 0, false
}

func guard(h api.Hall, comb, from int) (int, bool) {
	for ticks := 0; from+ticks <= h.Until; ticks++ {
		x := textOf(h)
		x.shut, x.from, x.ticks = comb, from, ticks
		if len(x.over()) == 0 {
			return ticks, true
		}
	}
	return 0, false
}

// playPeople follows each person: the ticks in which they come to a comb, one by one, and to each one the first tick in which there is room.
// Before the comb are those who have come, and have not passed in an earlier tick.
func playPeople(h api.Hall, d api.Day) [][]int {
	x := textOf(h)
	arrive := make([][]int, len(h.Combs))
	for number, train := range h.Trains {
		for crowd, c := range train.Crowds {
			for range d.People[number][crowd] {
				arrive[c.Comb] = append(arrive[c.Comb], d.At[number])
			}
		}
	}
	rows := make([][]int, h.Until)
	for tick := range rows {
		rows[tick] = make([]int, len(h.Combs))
	}
	for comb, c := range h.Combs {
		slices.Sort(arrive[comb])
		passed := map[int]int{}
		for _, came := range arrive[comb] {
			tick := came
			for tick < h.Until && passed[tick] == x.rate(comb, tick) {
				tick++
			}
			passed[tick]++
			for k := came; k <= tick && k < h.Until; k++ {
				rows[k][comb]++
			}
			if there := tick + d.Walks[comb][tick%len(d.Walks[comb])]; c.Next >= 0 && tick < h.Until {
				arrive[c.Next] = append(arrive[c.Next], there)
			}
		}
	}
	return rows
}

// size is what a drawn hall has at the most.
type size struct {
	combs, until, trains, shifts, people, walk, rate int
}

var (
	tiny   = size{combs: 3, until: 6, trains: 2, shifts: 2, people: 5, walk: 2, rate: 3}
	small  = size{combs: 4, until: 16, trains: 4, shifts: 5, people: 12, walk: 4, rate: 6}
	large  = size{combs: 8, until: 100, trains: 12, shifts: 20, people: 1000, walk: 20, rate: 200}
	limits = size{combs: 8, until: 100, trains: 12, shifts: 20, people: 1000, walk: 20, rate: 1000}
)

func anySpan(r *rand.Rand, low, high int) api.Span {
	a, b := low+r.Intn(high-low+1), low+r.Intn(high-low+1)
	return span(min(a, b), max(a, b))
}

// anyHall draws a valid hall.
func anyHall(r *rand.Rand, s size) api.Hall {
	h := api.Hall{Until: 1 + r.Intn(s.until)}
	combs := 1 + r.Intn(s.combs)
	for number := range combs {
		next := -1
		if left := combs - 1 - number; left > 0 && r.Intn(4) > 0 {
			next = number + 1 + r.Intn(left)
		}
		limit := r.Intn(s.people * 3)
		h.Combs = append(h.Combs, api.Comb{Rate: r.Intn(s.rate + 1), Limit: limit, Next: next, Walk: anySpan(r, 1, s.walk)})
	}
	for range r.Intn(s.trains + 1) {
		train := api.Train{At: anySpan(r, 0, h.Until-1)}
		if r.Intn(2) == 0 { // early, so that many walk on
			train.At = anySpan(r, 0, (h.Until-1)/3)
		}
		for comb := range combs {
			if len(train.Crowds) < api.MaxCrowds && r.Intn(1+comb) == 0 {
				train.Crowds = append(train.Crowds, api.Crowd{Comb: comb, People: anySpan(r, 0, s.people)})
			}
		}
		h.Trains = append(h.Trains, train)
	}
	for range r.Intn(s.shifts + 1) {
		shift := api.Shift{At: r.Intn(h.Until), Comb: r.Intn(combs), Rate: r.Intn(s.rate + 1)}
		if r.Intn(3) == 0 {
			shift.Rate = 0
		}
		h.Shifts = append(h.Shifts, shift)
	}
	slices.SortStableFunc(h.Shifts, func(a, b api.Shift) int { return a.At - b.At })
	return h
}

// anyDay draws a day of a hall, mostly at the ends of its spans.
func anyDay(r *rand.Rand, h api.Hall) api.Day {
	one := func(s api.Span) int {
		switch r.Intn(4) {
		case 0:
			return s.Low
		case 1:
			return s.Low + r.Intn(s.High-s.Low+1)
		}
		return s.High
	}
	d := api.Day{At: make([]int, len(h.Trains)), People: make([][]int, len(h.Trains)), Walks: make([][]int, len(h.Combs))}
	for number, train := range h.Trains {
		d.At[number] = one(train.At)
		for _, c := range train.Crowds {
			d.People[number] = append(d.People[number], one(c.People))
		}
	}
	for comb, c := range h.Combs {
		for range 1 + r.Intn(api.MaxWalking) {
			d.Walks[comb] = append(d.Walks[comb], one(c.Walk))
		}
	}
	return d
}

// anyGuarded draws a hall in which just one comb is over its limit, if any, and mostly one that leads to it, which is to be shut.
func anyGuarded(r *rand.Rand, s size) (h api.Hall, comb, from int) {
	h = anyHall(r, s)
	for number := range h.Combs {
		most, _ := halls.Most(h, number)
		h.Combs[number].Limit = slices.Max(most)
	}
	comb = r.Intn(len(h.Combs))
	crowded := h.Combs[comb].Next
	if crowded < 0 {
		crowded = r.Intn(len(h.Combs))
	}
	h.Combs[crowded].Limit = max(0, h.Combs[crowded].Limit-1-r.Intn(4))
	h.Combs[comb].Limit += r.Intn(s.people * 4)
	return h, comb, r.Intn((h.Until + 1) / 2)
}

// TestBoundsAgainstText compares Rates, Come, Most, Over and Empty with the text (P6.2, P6.4, P6.5, P6.6, P6.10).
func TestBoundsAgainstText(t *testing.T) {
	r := rand.New(rand.NewSource(71))
	some, none := 0, 0
	for number := range 700 {
		h := anyHall(r, small)
		if number%10 == 0 {
			h = anyHall(r, size{combs: 8, until: 40, trains: 12, shifts: 20, people: 1000, walk: 20, rate: 300})
		}
		x := textOf(h)
		empty := 0
		for comb := range h.Combs {
			most, e := halls.Most(h, comb)
			if want := x.mosts(comb); !slices.Equal(most, want) || e != api.OK {
				t.Fatalf("Most(%v, %d) = %v, %d, not %v", h, comb, most, e, want)
			}
			rates, e := halls.Rates(h, comb)
			for tick, people := range most {
				if e != api.OK || rates[tick] != x.rate(comb, tick) {
					t.Fatalf("Rates(%v, %d) = %v, %d", h, comb, rates, e)
				}
				if people > 0 {
					empty = max(empty, tick+1)
				}
			}
			for range 30 {
				from, to := r.Intn(h.Until), r.Intn(h.Until)
				if come, e := halls.Come(h, comb, from, to); come != x.come(comb, from, to) || e != api.OK {
					t.Fatalf("Come(%v, %d, %d, %d) = %d, %d, not %d", h, comb, from, to, come, e, x.come(comb, from, to))
				}
			}
		}
		over, e := halls.Over(h)
		if !slices.Equal(over, x.over()) || e != api.OK {
			t.Fatalf("Over(%v) = %v, %d, not %v", h, over, e, x.over())
		}
		if got, e := halls.Empty(h); got != empty || e != api.OK {
			t.Fatalf("Empty(%v) = %d, %d, not %d", h, got, e, empty)
		}
		some, none = some+min(1, len(over)), none+1-min(1, len(over))
	}
	if min(some, none) < 100 {
		t.Errorf("%d halls have combs that are over their limits, %d none", some, none)
	}
}

// TestPlayAgainstPeople compares Play with each person's way (P6.3).
func TestPlayAgainstPeople(t *testing.T) {
	r := rand.New(rand.NewSource(72))
	for range 2000 {
		h := anyHall(r, small)
		d := anyDay(r, h)
		rows, e := halls.Play(h, d)
		if want := playPeople(h, d); !slices.EqualFunc(rows, want, slices.Equal[[]int]) || e != api.OK {
			t.Fatalf("Play(%v, %v) = %v, %d, not %v", h, d, rows, e, want)
		}
	}
}

// TestWitnessAgainstText is P6.7.
func TestWitnessAgainstText(t *testing.T) {
	r := rand.New(rand.NewSource(73))
	for range 1000 {
		h := anyHall(r, small)
		x := textOf(h)
		for comb := range h.Combs {
			behind := slices.ContainsFunc(h.Combs, func(c api.Comb) bool { return c.Next == comb })
			for tick := range h.Until {
				d, e := halls.Witness(h, comb, tick)
				if behind && (e != api.ErrNone || !equal(d, api.Day{})) || !behind && (e != api.OK || !equal(d, x.witness(comb, tick))) {
					t.Fatalf("Witness(%v, %d, %d) = %v, %d", h, comb, tick, d, e)
				}
			}
		}
	}
}

// TestNeedAgainstText is P6.8: with more people than there are nothing changes any more, up to the greatest Rate.
func TestNeedAgainstText(t *testing.T) {
	r := rand.New(rand.NewSource(74))
	times := map[api.Errno]int{}
	for range 400 {
		h := anyHall(r, small)
		comb := r.Intn(len(h.Combs))
		h.Combs[comb].Limit = r.Intn(30)
		got, e := halls.Need(h, comb)
		want, is := need(h, comb, small.people*small.trains+1)
		if is != (e == api.OK) || !is && e != api.ErrNone || got != want {
			t.Fatalf("Need(%v, %d) = %d, %d, not %d", h, comb, got, e, want)
		}
		if got > 0 {
			times[api.ErrMany]++
		}
		times[e]++
	}
	if min(times[api.OK], times[api.ErrNone], times[api.ErrMany]) < 20 {
		t.Errorf("needs: %v", times)
	}
}

// TestGuardAgainstText is P6.9.
func TestGuardAgainstText(t *testing.T) {
	r := rand.New(rand.NewSource(75))
	times := map[api.Errno]int{}
	for range 1500 {
		h, comb, from := anyGuarded(r, small)
		got, e := halls.Guard(h, comb, from)
		want, is := guard(h, comb, from)
		if is != (e == api.OK) || !is && e != api.ErrNone || got != want {
			t.Fatalf("Guard(%v, %d, %d) = %d, %d, not %d", h, comb, from, got, e, want)
		}
		if got > 0 {
			times[api.ErrMany]++
		}
		times[e]++
	}
	if min(times[api.OK], times[api.ErrNone], times[api.ErrMany]) < 100 {
		t.Errorf("guards: %v", times)
	}
}
