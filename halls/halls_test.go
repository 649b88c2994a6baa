package halls_test

import (
	"math"
	"reflect"
	"slices"
	"testing"

	"newel/api"
	"newel/halls"
)

func span(low, high int) api.Span { return api.Span{Low: low, High: high} }

// hall is the hall H of the chapter's examples.
func hall() api.Hall {
	return api.Hall{
		Combs: []api.Comb{{Rate: 3, Limit: 12, Next: 1, Walk: span(2, 3)}, {Rate: 2, Limit: 10, Next: -1, Walk: span(1, 1)}},
		Trains: []api.Train{
			{At: span(2, 4), Crowds: []api.Crowd{{Comb: 0, People: span(6, 10)}}},
			{At: span(5, 5), Crowds: []api.Crowd{{Comb: 0, People: span(0, 4)}, {Comb: 1, People: span(3, 3)}}},
		},
		Until: 20,
	}
}

// with returns the hall of the examples as it is after a change.
func with(change func(h *api.Hall)) api.Hall {
	h := hall()
	change(&h)
	return h
}

// shifted is the hall of the examples with shifts.
func shifted(shifts ...api.Shift) api.Hall {
	return with(func(h *api.Hall) { h.Shifts = shifts })
}

// lone is a hall with one comb, to which trains bring so many people in ticks of these spans.
func lone(rate, limit, until int, people int, at ...api.Span) api.Hall {
	h := api.Hall{Combs: []api.Comb{{Rate: rate, Limit: limit, Next: -1, Walk: span(1, 1)}}, Until: until}
	for _, s := range at {
		h.Trains = append(h.Trains, api.Train{At: s, Crowds: []api.Crowd{{People: span(0, people)}}})
	}
	return h
}

// day is the day of the chapter's examples.
func day() api.Day {
	return api.Day{At: []int{4, 5}, People: [][]int{{10}, {4, 3}}, Walks: [][]int{{2}, {1}}}
}

// then appends zeros until there are n numbers.
func then(n int, list ...int) []int {
	return append(list, make([]int, n-len(list))...)
}

// TestCheckNumbers is P6.1 for each number of a hall: its least and greatest value, and what lies beyond them.
func TestCheckNumbers(t *testing.T) {
	shifts := func(h *api.Hall) []api.Shift {
		h.Shifts = []api.Shift{{At: 3, Comb: 1, Rate: 1}, {At: 3, Comb: 1, Rate: 2}, {At: 7}}
		return h.Shifts
	}
	for _, c := range []struct {
		name      string
		low, high int
		set       func(h *api.Hall, n int)
	}{
		{"Until", 6, 100, func(h *api.Hall, n int) { h.Until = n }}, // a train comes at 5
		{"Until without trains", 1, 100, func(h *api.Hall, n int) { h.Until, h.Trains = n, nil }},
		{"Rate", 0, 1000, func(h *api.Hall, n int) { h.Combs[1].Rate = n }},
		{"Limit", 0, 100000, func(h *api.Hall, n int) { h.Combs[1].Limit = n }},
		{"Next", 1, 1, func(h *api.Hall, n int) { h.Combs[0].Next = n }},
		{"Next of the last comb", -1, -1, func(h *api.Hall, n int) { h.Combs[1].Next = n }},
		{"Walk.Low", 1, 3, func(h *api.Hall, n int) { h.Combs[0].Walk.Low = n }},
		{"Walk.High", 2, 20, func(h *api.Hall, n int) { h.Combs[0].Walk.High = n }},
		{"Walk", 1, 20, func(h *api.Hall, n int) { h.Combs[1].Walk = span(n, n) }},
		{"At.Low", 0, 4, func(h *api.Hall, n int) { h.Trains[0].At.Low = n }},
		{"At.High", 2, 19, func(h *api.Hall, n int) { h.Trains[0].At.High = n }},
		{"At", 0, 19, func(h *api.Hall, n int) { h.Trains[1].At = span(n, n) }},
		{"the comb of a crowd", 0, 1, func(h *api.Hall, n int) { h.Trains[0].Crowds[0].Comb = n }},
		{"the comb of the first crowd", 0, 0, func(h *api.Hall, n int) { h.Trains[1].Crowds[0].Comb = n }},
		{"the comb of the second crowd", 1, 1, func(h *api.Hall, n int) { h.Trains[1].Crowds[1].Comb = n }},
		{"People.Low", 0, 10, func(h *api.Hall, n int) { h.Trains[0].Crowds[0].People.Low = n }},
		{"People.High", 6, 1000, func(h *api.Hall, n int) { h.Trains[0].Crowds[0].People.High = n }},
		{"People", 0, 1000, func(h *api.Hall, n int) { h.Trains[1].Crowds[1].People = span(n, n) }},
		{"At of the first shift", 0, 3, func(h *api.Hall, n int) { shifts(h)[0].At = n }},
		{"At of a shift", 3, 7, func(h *api.Hall, n int) { shifts(h)[1].At = n }},
		{"At of the last shift", 3, 19, func(h *api.Hall, n int) { shifts(h)[2].At = n }},
		{"Comb of a shift", 0, 1, func(h *api.Hall, n int) { shifts(h)[1].Comb = n }},
		{"Rate of a shift", 0, 1000, func(h *api.Hall, n int) { shifts(h)[1].Rate = n }},
	} {
		for _, n := range []int{c.low, c.high} {
			if e := halls.Check(with(func(h *api.Hall) { c.set(h, n) })); e != api.OK {
				t.Errorf("%s %d: %d", c.name, n, e)
			}
		}
		for _, n := range []int{math.MinInt, c.low - 1, c.high + 1, math.MaxInt} {
			h := with(func(h *api.Hall) { c.set(h, n) })
			if c.name == "Next" && n == c.low-1 { // its own number; -1 is allowed
				h.Combs[0].Next = 0
			}
			if e := halls.Check(h); e != api.ErrHall {
				t.Errorf("%s %d: %d", c.name, n, e)
			}
		}
	}
}

// chain is a hall with so many combs, each of which leads to the next one.
func chain(n int) api.Hall {
	h := api.Hall{Until: 1}
	for number := range n {
		h.Combs = append(h.Combs, api.Comb{Next: number + 1, Walk: span(1, 1)})
	}
	if n > 0 {
		h.Combs[n-1].Next = -1
	}
	return h
}

// TestCheckLists is P6.1 for the lists of a hall, and for combs that lead to others.
func TestCheckLists(t *testing.T) {
	crowds := func(combs ...int) api.Hall {
		h := chain(8)
		h.Trains = []api.Train{{}}
		for _, comb := range combs {
			h.Trains[0].Crowds = append(h.Trains[0].Crowds, api.Crowd{Comb: comb})
		}
		return h
	}
	trains := func(n int) api.Hall {
		return with(func(h *api.Hall) { h.Trains = slices.Repeat(h.Trains[:1], n) })
	}
	shifts := func(n int) api.Hall { return shifted(slices.Repeat([]api.Shift{{At: 3}}, n)...) }
	next := func(comb, next int) api.Hall {
		h := chain(8)
		h.Combs[comb].Next = next
		return h
	}
	for number, c := range []struct {
		h    api.Hall
		want api.Errno
	}{
		{hall(), api.OK},
		{api.Hall{}, api.ErrHall},
		{chain(0), api.ErrHall},
		{chain(1), api.OK},
		{chain(8), api.OK},
		{chain(9), api.ErrHall},
		{next(0, 7), api.OK},
		{next(0, 8), api.ErrHall},
		{next(5, -1), api.OK},
		{next(5, -2), api.ErrHall},
		{next(5, 5), api.ErrHall},
		{next(5, 4), api.ErrHall},
		{next(7, 0), api.ErrHall},
		{next(7, 8), api.ErrHall},
		{trains(0), api.OK},
		{trains(12), api.OK},
		{trains(13), api.ErrHall},
		{crowds(), api.OK},
		{crowds(0, 2, 5, 7), api.OK},
		{crowds(0, 1, 2, 3, 4), api.ErrHall},
		{crowds(3, 3), api.ErrHall},
		{crowds(3, 2), api.ErrHall},
		{crowds(6, 8), api.ErrHall},
		{shifts(20), api.OK},
		{shifts(21), api.ErrHall},
		{shifted(api.Shift{At: 4}, api.Shift{At: 3}), api.ErrHall},
		{shifted(api.Shift{At: 3, Comb: 1}, api.Shift{At: 3, Comb: 0}), api.OK},
	} {
		if e := halls.Check(c.h); e != c.want {
			t.Errorf("%d: Check(%v) = %d", number, c.h, e)
		}
	}
}

// TestRates is P6.2.
func TestRates(t *testing.T) {
	changes := []api.Shift{{At: 0, Comb: 1, Rate: 9}, {At: 2, Comb: 0, Rate: 5}, {At: 2, Comb: 1, Rate: 7}, {At: 4, Comb: 0, Rate: 8}, {At: 4, Comb: 0}}
	for _, c := range []struct {
		h    api.Hall
		comb int
		want []int
		e    api.Errno
	}{
		{shifted(changes[1], changes[4]), 0, then(20, 3, 3, 5, 5), api.OK},
		{hall(), 0, slices.Repeat([]int{3}, 20), api.OK},
		{shifted(changes...), 0, then(20, 3, 3, 5, 5), api.OK}, // the last one of two at 4
		{shifted(changes...), 1, append([]int{9, 9}, slices.Repeat([]int{7}, 18)...), api.OK},
		{shifted(api.Shift{At: 19, Comb: 1, Rate: 1000}), 1, append(slices.Repeat([]int{2}, 19), 1000), api.OK},
		{lone(4, 0, 1, 0), 0, []int{4}, api.OK},
		{hall(), 2, nil, api.ErrArg},
		{hall(), -1, nil, api.ErrArg},
		{chain(0), 0, nil, api.ErrHall},
	} {
		got, e := halls.Rates(c.h, c.comb)
		if !slices.Equal(got, c.want) || e != c.e {
			t.Errorf("Rates(%v, %d) = %v, %d", c.h, c.comb, got, e)
		}
	}
}

// column returns what Play says of one comb.
func column(t *testing.T, h api.Hall, d api.Day, comb int) []int {
	t.Helper()
	rows, e := halls.Play(h, d)
	if e != api.OK || len(rows) != h.Until {
		t.Fatalf("Play(%v, %v) = %v, %d", h, d, rows, e)
	}
	var list []int
	for _, row := range rows {
		if len(row) != len(h.Combs) {
			t.Fatalf("Play(%v, %v) = %v", h, d, rows)
		}
		list = append(list, row[comb])
	}
	return list
}

// TestPlay is P6.3.
func TestPlay(t *testing.T) {
	walks := func(times ...int) api.Day {
		d := day()
		d.Walks[0] = times
		return d
	}
	early := api.Day{At: []int{2, 5}, People: [][]int{{6}, {0, 3}}, Walks: [][]int{{3}, {1}}}
	late := with(func(h *api.Hall) { h.Until = 6 })
	for _, c := range []struct {
		h    api.Hall
		d    api.Day
		comb int
		want []int
	}{
		{hall(), day(), 0, then(20, 0, 0, 0, 0, 10, 11, 8, 5, 2)},
		{hall(), day(), 1, then(20, 0, 0, 0, 0, 0, 3, 4, 5, 6, 7, 7, 5, 3, 1)},
		{late, day(), 0, []int{0, 0, 0, 0, 10, 11}},
		{late, day(), 1, []int{0, 0, 0, 0, 0, 3}}, // who passes at 4 is there behind the last tick
		{hall(), early, 0, then(20, 0, 0, 6, 3)},
		{hall(), early, 1, then(20, 0, 0, 0, 0, 0, 6, 7, 5, 3, 1)},
		// 3 pass at 4, 5, 6 and 7, then 2; the times belong to the ticks in which they pass: 4 and 6 walk for 3 ticks, 5 and 7 for 2.
		{hall(), walks(3, 2), 1, then(20, 0, 0, 0, 0, 0, 3, 1, 6, 4, 8, 6, 6, 4, 2)},
		{hall(), walks(2, 2, 2, 2, 3), 1, then(20, 0, 0, 0, 0, 0, 3, 1, 6, 7, 8, 8, 6, 4, 2)}, // only who passes at 4
		{shifted(api.Shift{At: 5, Rate: 0}, api.Shift{At: 7, Rate: 20}), day(), 0, then(20, 0, 0, 0, 0, 10, 11, 11, 11)},
		{with(func(h *api.Hall) { h.Combs[0].Next = -1 }), day(), 1, then(20, 0, 0, 0, 0, 0, 3, 1)},
		{lone(0, 0, 4, 5, span(1, 2)), api.Day{At: []int{1}, People: [][]int{{5}}, Walks: [][]int{{1}}}, 0, []int{0, 5, 5, 5}},
		{lone(9, 0, 2, 5), api.Day{Walks: [][]int{{1}}}, 0, []int{0, 0}},
	} {
		if got := column(t, c.h, c.d, c.comb); !slices.Equal(got, c.want) {
			t.Errorf("Play(%v, %v) before %d = %v", c.h, c.d, c.comb, got)
		}
	}
}

// TestPlayRefusals is ErrDay of P6.3.
func TestPlayRefusals(t *testing.T) {
	wide := with(func(h *api.Hall) { h.Combs[1].Walk = span(3, 6) })
	plain := func() api.Day {
		d := day()
		d.Walks[1] = []int{3}
		return d
	}
	for number, c := range []struct {
		change func(d *api.Day)
		want   api.Errno
	}{
		{func(d *api.Day) {}, api.OK},
		{func(d *api.Day) { d.At = d.At[:1] }, api.ErrDay},
		{func(d *api.Day) { d.At = append(d.At, 5) }, api.ErrDay},
		{func(d *api.Day) { d.At = nil }, api.ErrDay},
		{func(d *api.Day) { d.At[0] = 1 }, api.ErrDay},
		{func(d *api.Day) { d.At[0] = 2 }, api.OK},
		{func(d *api.Day) { d.At[0] = 5 }, api.ErrDay},
		{func(d *api.Day) { d.At[1] = 6 }, api.ErrDay},
		{func(d *api.Day) { d.People = d.People[:1] }, api.ErrDay},
		{func(d *api.Day) { d.People = append(d.People, nil) }, api.ErrDay},
		{func(d *api.Day) { d.People[0] = nil }, api.ErrDay},
		{func(d *api.Day) { d.People[0] = []int{10, 10} }, api.ErrDay},
		{func(d *api.Day) { d.People[1] = []int{4} }, api.ErrDay},
		{func(d *api.Day) { d.People[0][0] = 5 }, api.ErrDay},
		{func(d *api.Day) { d.People[0][0] = 6 }, api.OK},
		{func(d *api.Day) { d.People[0][0] = 11 }, api.ErrDay},
		{func(d *api.Day) { d.People[1][1] = 4 }, api.ErrDay},
		{func(d *api.Day) { d.Walks = d.Walks[:1] }, api.ErrDay},
		{func(d *api.Day) { d.Walks = append(d.Walks, []int{1}) }, api.ErrDay},
		{func(d *api.Day) { d.Walks[1] = nil }, api.ErrDay},
		{func(d *api.Day) { d.Walks[1] = []int{} }, api.ErrDay},
		{func(d *api.Day) { d.Walks[1] = slices.Repeat([]int{6}, 20) }, api.OK},
		{func(d *api.Day) { d.Walks[1] = slices.Repeat([]int{6}, 21) }, api.ErrDay},
		{func(d *api.Day) { d.Walks[1] = []int{3, 2} }, api.ErrDay},
		{func(d *api.Day) { d.Walks[1] = []int{3, 6, 7} }, api.ErrDay},
	} {
		d := plain()
		c.change(&d)
		rows, e := halls.Play(wide, d)
		if e != c.want || e != api.OK && len(rows) > 0 {
			t.Errorf("%d: Play(%v) = %v, %d", number, d, rows, e)
		}
	}
}

// TestCome is P6.4.
func TestCome(t *testing.T) {
	two := lone(3, 0, 10, 10, span(2, 4), span(4, 4))
	for _, c := range []struct {
		h              api.Hall
		comb, from, to int
		want           int
		e              api.Errno
	}{
		{hall(), 0, 4, 5, 14, api.OK},
		{hall(), 1, 4, 6, 12, api.OK},
		{hall(), 0, 0, 1, 0, api.OK},
		{hall(), 0, 0, 2, 10, api.OK},
		{hall(), 0, 3, 3, 10, api.OK}, // each train that can come then
		{hall(), 0, 5, 19, 4, api.OK},
		{hall(), 0, 6, 19, 0, api.OK},
		{hall(), 0, 0, 19, 14, api.OK},
		{hall(), 1, 0, 19, 17, api.OK},
		{hall(), 1, 0, 3, 0, api.OK}, // who passes at 2 is not there before 4
		{hall(), 1, 4, 4, 3, api.OK},
		{hall(), 1, 5, 5, 9, api.OK}, // who passes at 2 and at 3, and the train
		{hall(), 0, 5, 4, 0, api.OK},
		{hall(), 0, 19, 0, 0, api.OK},
		{hall(), 1, 19, 0, 0, api.OK},
		{two, 0, 4, 4, 20, api.OK},
		{two, 0, 2, 3, 10, api.OK},
		{hall(), -1, 0, 0, 0, api.ErrArg},
		{hall(), 2, 0, 0, 0, api.ErrArg},
		{hall(), 0, -1, 0, 0, api.ErrArg},
		{hall(), 0, 20, 0, 0, api.ErrArg},
		{hall(), 0, 0, -1, 0, api.ErrArg},
		{hall(), 0, 0, 20, 0, api.ErrArg},
		{chain(0), 0, 0, 0, 0, api.ErrHall},
	} {
		got, e := halls.Come(c.h, c.comb, c.from, c.to)
		if got != c.want || e != c.e {
			t.Errorf("Come(%v, %d, %d, %d) = %d, %d", c.h, c.comb, c.from, c.to, got, e)
		}
	}
}

// TestMost is P6.5.
func TestMost(t *testing.T) {
	for _, c := range []struct {
		h    api.Hall
		comb int
		want []int
		e    api.Errno
	}{
		{hall(), 0, then(20, 0, 0, 10, 10, 10, 11, 8, 5, 2), api.OK},
		{hall(), 1, then(20, 0, 0, 0, 0, 3, 9, 10, 11, 11, 9, 8, 6, 4, 2), api.OK},
		{lone(3, 0, 6, 7, span(1, 1)), 0, []int{0, 7, 4, 1, 0, 0}, api.OK},
		{lone(0, 0, 4, 7, span(0, 3), span(2, 2)), 0, []int{7, 7, 14, 14}, api.OK},
		{lone(3, 0, 4, 0, span(0, 3)), 0, []int{0, 0, 0, 0}, api.OK},
		{lone(3, 0, 1, 7), 0, []int{0}, api.OK},
		{with(func(h *api.Hall) { h.Combs[0].Next = -1 }), 1, then(20, 0, 0, 0, 0, 0, 3, 1), api.OK},
		{shifted(api.Shift{At: 3, Rate: 0}, api.Shift{At: 6, Rate: 20}), 0, then(20, 0, 0, 10, 10, 10, 14, 14), api.OK},
		{hall(), 2, nil, api.ErrArg},
		{hall(), -1, nil, api.ErrArg},
		{chain(0), 0, nil, api.ErrHall},
	} {
		got, e := halls.Most(c.h, c.comb)
		if !slices.Equal(got, c.want) || e != c.e {
			t.Errorf("Most(%v, %d) = %v, %d", c.h, c.comb, got, e)
		}
	}
}

// TestOver is P6.6.
func TestOver(t *testing.T) {
	limits := func(a, b int) api.Hall {
		return with(func(h *api.Hall) { h.Combs[0].Limit, h.Combs[1].Limit = a, b })
	}
	for _, c := range []struct {
		h    api.Hall
		want [][2]int
		e    api.Errno
	}{
		{hall(), [][2]int{{1, 7}}, api.OK},
		{limits(11, 11), nil, api.OK},
		{limits(10, 11), [][2]int{{0, 5}}, api.OK},
		{limits(9, 8), [][2]int{{0, 2}, {1, 5}}, api.OK},
		{limits(0, 0), [][2]int{{0, 2}, {1, 4}}, api.OK},
		{lone(3, 0, 4, 1, span(0, 0)), [][2]int{{0, 0}}, api.OK},
		{lone(3, 0, 4, 1, span(3, 3)), [][2]int{{0, 3}}, api.OK},
		{lone(3, 0, 4, 0, span(0, 3)), nil, api.OK},
		{chain(0), nil, api.ErrHall},
	} {
		got, e := halls.Over(c.h)
		if !slices.Equal(got, c.want) || e != c.e {
			t.Errorf("Over(%v) = %v, %d", c.h, got, e)
		}
	}
}

// TestWitness is P6.7.
func TestWitness(t *testing.T) {
	walks := [][]int{{2}, {1}}
	far := with(func(h *api.Hall) { h.Combs[0].Next = -1 })
	three := lone(2, 0, 10, 6, span(0, 1), span(3, 9), span(8, 9))
	one := func(at, people []int) api.Day {
		d := api.Day{At: at, Walks: [][]int{{1}}}
		for _, n := range people {
			d.People = append(d.People, []int{n})
		}
		return d
	}
	for _, c := range []struct {
		h          api.Hall
		comb, tick int
		want       api.Day
		e          api.Errno
	}{
		{hall(), 0, 5, day(), api.OK},
		{hall(), 0, 4, api.Day{At: []int{4, 5}, People: [][]int{{10}, {0, 3}}, Walks: walks}, api.OK},
		{hall(), 0, 2, api.Day{At: []int{2, 5}, People: [][]int{{10}, {0, 3}}, Walks: walks}, api.OK},
		{hall(), 0, 8, day(), api.OK},
		{hall(), 0, 0, api.Day{At: []int{2, 5}, People: [][]int{{6}, {0, 3}}, Walks: walks}, api.OK},
		{hall(), 0, 19, api.Day{At: []int{2, 5}, People: [][]int{{6}, {0, 3}}, Walks: walks}, api.OK},
		{far, 1, 6, api.Day{At: []int{2, 5}, People: [][]int{{6}, {4, 3}}, Walks: walks}, api.OK},
		{three, 0, 4, one([]int{1, 3, 8}, []int{6, 6, 0}), api.OK}, // 12 - 6 from 1 on, as 6 from 4 on: the first of both
		{three, 0, 2, one([]int{1, 3, 8}, []int{6, 0, 0}), api.OK},
		{three, 0, 8, one([]int{0, 8, 8}, []int{0, 6, 6}), api.OK},
		{lone(3, 0, 10, 6, span(1, 1), span(3, 4)), 0, 3, one([]int{1, 3}, []int{6, 6}), api.OK},
		{lone(3, 0, 10, 6, span(1, 2)), 0, 4, one([]int{2}, []int{6}), api.OK},
		{lone(3, 0, 10, 6, span(1, 1)), 0, 3, one([]int{1}, []int{6}), api.OK}, // nobody is there, and it is so from 1 on
		{lone(0, 0, 10, 6, span(5, 9)), 0, 4, one([]int{5}, []int{0}), api.OK},
		{lone(0, 0, 10, 6), 0, 4, api.Day{Walks: [][]int{{1}}}, api.OK},
		{hall(), 1, 5, api.Day{}, api.ErrNone},
		{hall(), 1, 20, api.Day{}, api.ErrArg},
		{hall(), 0, 20, api.Day{}, api.ErrArg},
		{hall(), 0, -1, api.Day{}, api.ErrArg},
		{hall(), 2, 5, api.Day{}, api.ErrArg},
		{hall(), -1, 5, api.Day{}, api.ErrArg},
		{chain(0), 0, 0, api.Day{}, api.ErrHall},
	} {
		got, e := halls.Witness(c.h, c.comb, c.tick)
		if !equal(got, c.want) || e != c.e {
			t.Errorf("Witness(%v, %d, %d) = %v, %d", c.h, c.comb, c.tick, got, e)
		}
	}
}

// equal compares days; nil and empty lists are the same.
func equal(a, b api.Day) bool {
	rows := func(a, b [][]int) bool { return slices.EqualFunc(a, b, slices.Equal[[]int]) }
	return slices.Equal(a.At, b.At) && rows(a.People, b.People) && rows(a.Walks, b.Walks)
}

// TestNeed is P6.8.
func TestNeed(t *testing.T) {
	for _, c := range []struct {
		h    api.Hall
		comb int
		want int
		e    api.Errno
	}{
		{hall(), 0, 2, api.OK},
		{hall(), 1, 3, api.OK},
		{shifted(api.Shift{At: 0, Comb: 1, Rate: 1000}), 1, 3, api.OK}, // its own shifts do not count
		{shifted(api.Shift{At: 0, Comb: 0, Rate: 0}), 1, 0, api.OK},    // those of others do
		{with(func(h *api.Hall) { h.Combs[1].Rate = 1000 }), 1, 3, api.OK},
		{lone(3, 6, 9, 7, span(0, 3)), 0, 0, api.ErrNone},
		{lone(3, 7, 9, 7, span(0, 3)), 0, 0, api.OK},
		{lone(3, 13, 9, 7, span(3, 3), span(4, 4)), 0, 1, api.OK},
		{lone(0, 1000, 9, 1000, span(3, 3), span(4, 4)), 0, 1000, api.OK},
		{lone(0, 999, 9, 1000, span(3, 3)), 0, 0, api.ErrNone},
		{lone(0, 1000, 9, 1000, span(3, 4), span(4, 4)), 0, 0, api.ErrNone},
		{hall(), 2, 0, api.ErrArg},
		{hall(), -1, 0, api.ErrArg},
		{chain(0), 0, 0, api.ErrHall},
	} {
		got, e := halls.Need(c.h, c.comb)
		if got != c.want || e != c.e {
			t.Errorf("Need(%v, %d) = %d, %d", c.h, c.comb, got, e)
		}
	}
}

// TestGuard is P6.9.
func TestGuard(t *testing.T) {
	low := with(func(h *api.Hall) { h.Combs[1].Limit = 2 }) // the train alone brings 3
	wide := with(func(h *api.Hall) { h.Combs[1].Limit = 11 })
	late := chain(2) // nobody must come to the comb 1
	late.Until, late.Combs[0].Rate, late.Combs[0].Limit = 6, 1000, 5
	late.Trains = []api.Train{{At: span(1, 1), Crowds: []api.Crowd{{Comb: 0, People: span(0, 5)}}}}
	waves := api.Hall{ // those of the first train have to wait; if they do for longer, they come together with those of the second one
		Combs: []api.Comb{{Rate: 4, Limit: 20, Next: 1, Walk: span(4, 4)}, {Rate: 3, Limit: 10, Next: -1, Walk: span(2, 2)}},
		Trains: []api.Train{
			{At: span(3, 4), Crowds: []api.Crowd{{Comb: 0, People: span(11, 11)}}},
			{At: span(9, 9), Crowds: []api.Crowd{{Comb: 0, People: span(10, 10)}, {Comb: 1, People: span(5, 7)}}},
		},
		Until: 14,
	}
	open := late // the comb is turned while it is shut, and stays so behind it
	open.Combs = slices.Clone(late.Combs)
	open.Combs[1].Limit, open.Shifts = 1, []api.Shift{{At: 2, Rate: 7}, {At: 3, Rate: 1}}
	for _, c := range []struct {
		h          api.Hall
		comb, from int
		want       int
		e          api.Errno
	}{
		{hall(), 0, 5, 1, api.OK},
		{late, 0, 1, 4, api.OK},
		{late, 0, 0, 5, api.OK},
		{late, 0, 2, 0, api.ErrNone},
		{waves, 0, 3, 3, api.OK},
		{open, 0, 1, 3, api.OK},
		{wide, 0, 5, 0, api.OK},
		{wide, 1, 19, 0, api.OK},
		{low, 0, 5, 0, api.ErrNone},
		{hall(), 1, 0, 0, api.ErrNone},
		{hall(), 0, 19, 0, api.ErrNone},
		{hall(), -1, 0, 0, api.ErrArg},
		{hall(), 2, 0, 0, api.ErrArg},
		{hall(), 0, -1, 0, api.ErrArg},
		{hall(), 0, 20, 0, api.ErrArg},
		{chain(0), 0, 0, 0, api.ErrHall},
	} {
		got, e := halls.Guard(c.h, c.comb, c.from)
		if got != c.want || e != c.e {
			t.Errorf("Guard(%v, %d, %d) = %d, %d", c.h, c.comb, c.from, got, e)
		}
	}
}

// TestEmpty is P6.10.
func TestEmpty(t *testing.T) {
	for _, c := range []struct {
		h    api.Hall
		want int
		e    api.Errno
	}{
		{hall(), 14, api.OK},
		{with(func(h *api.Hall) { h.Combs[0].Next = -1 }), 9, api.OK},
		{with(func(h *api.Hall) { h.Until = 9 }), 9, api.OK},
		{lone(1, 0, 10, 0, span(0, 9)), 0, api.OK},
		{lone(9, 0, 10, 5, span(0, 0)), 1, api.OK},
		{lone(9, 0, 10, 5, span(0, 0), span(6, 6)), 7, api.OK}, // who comes later counts, though nobody is there between
		{lone(9, 0, 10, 5, span(9, 9)), 10, api.OK},
		{lone(0, 0, 10, 5, span(0, 0)), 10, api.OK},
		{chain(8), 0, api.OK},
		{chain(0), 0, api.ErrHall},
	} {
		got, e := halls.Empty(c.h)
		if got != c.want || e != c.e {
			t.Errorf("Empty(%v) = %d, %d", c.h, got, e)
		}
	}
}

// TestResultsAreNew is R4: what is done with a result changes no later one, nor an argument.
func TestResultsAreNew(t *testing.T) {
	h, d := shifted(api.Shift{At: 19, Comb: 1, Rate: 2}), day()
	for range 2 {
		rates, _ := halls.Rates(h, 0)
		most, _ := halls.Most(h, 0)
		over, _ := halls.Over(h)
		rows, _ := halls.Play(h, d)
		got, _ := halls.Witness(h, 0, 5)
		if rates[0] != 3 || most[2] != 10 || over[0] != [2]int{1, 7} || rows[4][0] != 10 || rows[5][1] != 3 || !equal(got, day()) {
			t.Errorf("%v, %v, %v, %v, %v", rates, most, over, rows, got)
		}
		rates[0], most[2], over[0], got.At[0] = 99, 99, [2]int{9, 9}, 99
		lists := slices.Concat(rows, got.People, got.Walks)
		for number, list := range lists {
			for i := range list {
				list[i] = number
			}
			_ = append(list, 99)
		}
		for number, list := range lists {
			if !slices.Equal(list, slices.Repeat([]int{number}, len(list))) {
				t.Errorf("the list %d shares memory with others: %v", number, list)
			}
		}
	}
	if !reflect.DeepEqual(h, shifted(api.Shift{At: 19, Comb: 1, Rate: 2})) || !equal(d, day()) {
		t.Errorf("the arguments are %v and %v now", h, d)
	}
}
