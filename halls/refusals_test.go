package halls_test

import (
	"math"
	"math/rand"
	"reflect"
	"slices"
	"testing"

	"newel/api"
	"newel/halls"
)

// input is what all functions together take.
type input struct {
	h              api.Hall
	d              api.Day
	comb, from, to int
}

// errorsOf calls all functions; a result beside an error counts as an error of its own.
func errorsOf(x input) map[string]api.Errno {
	out := map[string]api.Errno{}
	put := func(name string, e api.Errno, zero bool) {
		if e != api.OK && !zero {
			e = -1
		}
		out[name] = e
	}
	put("Check", halls.Check(x.h), true)
	list, e := halls.Rates(x.h, x.comb)
	put("Rates", e, len(list) == 0)
	rows, e := halls.Play(x.h, x.d)
	put("Play", e, len(rows) == 0)
	n, e := halls.Come(x.h, x.comb, x.from, x.to)
	put("Come", e, n == 0)
	list, e = halls.Most(x.h, x.comb)
	put("Most", e, len(list) == 0)
	over, e := halls.Over(x.h)
	put("Over", e, len(over) == 0)
	d, e := halls.Witness(x.h, x.comb, x.to)
	put("Witness", e, equal(d, api.Day{}))
	n, e = halls.Need(x.h, x.comb)
	put("Need", e, n == 0)
	n, e = halls.Guard(x.h, x.comb, x.from)
	put("Guard", e, n == 0)
	n, e = halls.Empty(x.h)
	put("Empty", e, n == 0)
	return out
}

// TestOrderOfErrors: everything is wrong in the first input, and one thing less in each one that follows.
func TestOrderOfErrors(t *testing.T) {
	x := input{comb: 9, from: -1, to: -1, d: day()}
	x.d.At = nil
	want := map[string]api.Errno{}
	set := func(e api.Errno, names ...string) {
		for _, name := range names {
			want[name] = e
		}
	}
	expect := func() {
		t.Helper()
		for name, e := range errorsOf(x) {
			if e != want[name] {
				t.Errorf("%s: %d, want %d", name, e, want[name])
			}
		}
	}
	set(api.ErrHall, "Check", "Rates", "Play", "Come", "Most", "Over", "Witness", "Need", "Guard", "Empty")
	expect()
	x.h = with(func(h *api.Hall) { h.Combs[1].Limit = 2 })
	set(api.OK, "Check", "Over", "Empty")
	set(api.ErrDay, "Play")
	set(api.ErrArg, "Rates", "Come", "Most", "Witness", "Need", "Guard")
	expect()
	x.d = day()
	set(api.OK, "Play")
	expect()
	x.comb = 1 // it is the Next of a comb, and nothing keeps it within its limit
	set(api.OK, "Rates", "Most")
	set(api.ErrNone, "Need")
	expect()
	x.from = 0
	set(api.ErrNone, "Guard")
	expect()
	x.to = 0
	set(api.OK, "Come")
	set(api.ErrNone, "Witness")
	expect()
	x.comb, x.h.Combs[1].Limit = 0, 100
	set(api.OK, "Need", "Guard", "Witness")
	expect()
}

// anyInput draws arguments most of which are nearly valid.
func anyInput(r *rand.Rand) input {
	limited := []int{math.MinInt, -2, -1, 0, 1, 4, 8, 12, 20, 21, 100, 101, 1000, 1001, 100000, 100001, math.MaxInt}
	any := func(n int) int {
		if r.Intn(20) == 0 {
			return limited[r.Intn(len(limited))]
		}
		return r.Intn(n)
	}
	x := input{h: anyHall(r, []size{tiny, small, small, limits}[r.Intn(4)])}
	x.d = anyDay(r, x.h)
	x.comb, x.from, x.to = any(len(x.h.Combs)), any(x.h.Until), any(x.h.Until)
	comb := &x.h.Combs[r.Intn(len(x.h.Combs))]
	numbers := []*int{&x.h.Until, &comb.Rate, &comb.Limit, &comb.Next, &comb.Walk.Low, &comb.Walk.High}
	for i := range x.h.Trains {
		numbers = append(numbers, &x.h.Trains[i].At.Low, &x.h.Trains[i].At.High, &x.d.At[i])
		for j := range x.h.Trains[i].Crowds {
			c := &x.h.Trains[i].Crowds[j]
			numbers = append(numbers, &c.Comb, &c.People.Low, &c.People.High, &x.d.People[i][j])
		}
	}
	for i := range x.h.Shifts {
		numbers = append(numbers, &x.h.Shifts[i].At, &x.h.Shifts[i].Comb, &x.h.Shifts[i].Rate)
	}
	switch r.Intn(4) {
	case 0:
		*numbers[r.Intn(len(numbers))] = limited[r.Intn(len(limited))]
	case 1:
		cut(r, &x)
	}
	return x
}

// cut takes something away from one of the lists, or adds something to it.
func cut(r *rand.Rand, x *input) {
	switch r.Intn(6) {
	case 0:
		x.h.Combs = x.h.Combs[:len(x.h.Combs)-1]
	case 1:
		x.h.Combs = append(x.h.Combs, slices.Repeat(x.h.Combs[:1], r.Intn(9))...)
	case 2:
		x.h.Trains = x.h.Trains[:len(x.h.Trains)/2]
	case 3:
		x.d.At = append(x.d.At, 0)
	case 4:
		x.d.Walks = x.d.Walks[:len(x.d.Walks)-1]
	case 5:
		x.d.Walks[0] = nil
	}
}

// copied returns an input that shares no memory with another one.
func copied(x input) input {
	x.h.Combs, x.h.Trains, x.h.Shifts = slices.Clone(x.h.Combs), slices.Clone(x.h.Trains), slices.Clone(x.h.Shifts)
	for i := range x.h.Trains {
		x.h.Trains[i].Crowds = slices.Clone(x.h.Trains[i].Crowds)
	}
	x.d.At, x.d.People, x.d.Walks = slices.Clone(x.d.At), slices.Clone(x.d.People), slices.Clone(x.d.Walks)
	for _, rows := range [][][]int{x.d.People, x.d.Walks} {
		for i := range rows {
			rows[i] = slices.Clone(rows[i])
		}
	}
	return x
}

// TestAnyArguments: whatever the arguments are, no function panics, changes them, or returns something beside an error, and the errors of
// all functions fit together.
func TestAnyArguments(t *testing.T) {
	r := rand.New(rand.NewSource(91))
	times := map[api.Errno]int{}
	for range 1500 {
		x := anyInput(r)
		before := copied(x)
		errors := errorsOf(x)
		if !reflect.DeepEqual(x, before) {
			t.Fatalf("%v is changed to %v", before, x)
		}
		first := errors["Check"]
		for name, e := range errors {
			if e < 0 || first != api.OK && e != first || first == api.OK && (e == api.ErrHall || e == api.ErrDay && name != "Play") {
				t.Fatalf("%s(%v): %d", name, x, e)
			}
			times[e]++
		}
		arg := errors["Rates"]
		if errors["Most"] != arg || arg != api.OK && errors["Come"] != arg || errors["Over"] != first || errors["Empty"] != first {
			t.Fatalf("%v: %v", x, errors)
		}
	}
	for _, e := range []api.Errno{api.OK, api.ErrArg, api.ErrNone, api.ErrHall, api.ErrDay} {
		if times[e] < 100 {
			t.Errorf("the error %d came %d times", e, times[e])
		}
	}
}
