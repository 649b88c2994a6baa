package calls_test

import (
	"math"
	"slices"
	"testing"

	"newel/api"
	"newel/calls"
)

// group is the group of the chapter's examples.
func group() []api.Car { return []api.Car{car(), slow()} }

// cars are cars that serve pairs of a lowest and a highest floor.
func cars(pairs ...int) []api.Car {
	var g []api.Car
	for i := 0; i < len(pairs); i += 2 {
		g = append(g, api.Car{Low: pairs[i], High: pairs[i+1], Start: pairs[i], Move: 1, Stop: 1})
	}
	return g
}

// TestLongest is P7.7.
func TestLongest(t *testing.T) {
	l := pressed(2, 0, 1, 0)
	split := cars(0, 2, 2, 5)
	for _, x := range []struct {
		g     []api.Car
		l     []api.Press
		share []int
		want  int
		e     api.Errno
	}{
		{group(), l, []int{0, 0}, 3, api.OK},
		{group(), l, []int{0, 1}, 2, api.OK},
		{group(), l, []int{1, 0}, 1, api.OK},
		{group(), l, []int{1, 1}, 3, api.OK},
		{group(), nil, nil, 0, api.OK},
		{group(), nil, []int{}, 0, api.OK},
		{group(), []api.Press{}, nil, 0, api.OK},
		{group(), nil, []int{0}, 0, api.ErrArg},
		{group(), l, nil, 0, api.ErrArg},
		{group(), l, []int{0}, 0, api.ErrArg},
		{group(), l, []int{0, 1, 0}, 0, api.ErrArg},
		{group(), l, []int{0, 2}, 0, api.ErrArg},
		{group(), l, []int{-1, 0}, 0, api.ErrArg},
		{group(), l, []int{math.MaxInt, 0}, 0, api.ErrArg},
		{group(), l, []int{math.MinInt, 0}, 0, api.ErrArg},
		{group()[:1], l, []int{0, 0}, 3, api.OK},
		{group()[:1], l, []int{1, 0}, 0, api.ErrArg},
		{group()[:1], slices.Repeat(pressed(2, 3), 200), make([]int, 200), 2, api.OK},
		{group()[:1], slices.Repeat(pressed(2, 3), 201), make([]int, 201), 0, api.ErrPress},
		{split, pressed(0, 0, 2, 0, 5, 0), []int{0, 1, 1}, 4, api.OK}, // the second one stands at 2 first
		{split, pressed(0, 0, 2, 0, 5, 0), []int{0, 0, 1}, 3, api.OK},
		{split, pressed(0, 0, 2, 0, 5, 0), []int{1, 1, 1}, 0, api.ErrArg},
		{split, pressed(0, 0, 2, 0, 5, 0), []int{0, 1, 0}, 0, api.ErrArg},
	} {
		if got, e := calls.Longest(x.g, x.l, x.share); got != x.want || e != x.e {
			t.Errorf("Longest(%v, %v, %v) = %d, %d", x.g, x.l, x.share, got, e)
		}
	}
}

// TestGroups: which cars are a group, and which presses are valid for it.
func TestGroups(t *testing.T) {
	split := cars(0, 1, 3, 5)
	for _, x := range []struct {
		g    []api.Car
		l    []api.Press
		want api.Errno
	}{
		{group(), nil, api.OK},
		{nil, nil, api.ErrCar},
		{nil, pressed(0, -1), api.ErrCar},
		{[]api.Car{}, nil, api.ErrCar},
		{cars(0, 1, 2, 3, 4, 5), nil, api.OK},
		{cars(0, 1, 0, 1, 0, 1), nil, api.OK},
		{cars(0, 1, 2, 3, 4, 5, 0, 5), nil, api.ErrCar},
		{cars(0, 1, 2, 6), nil, api.ErrCar},
		{cars(-1, 1, 2, 3), pressed(9, 0), api.ErrCar},
		{append(group(), api.Car{}), nil, api.ErrCar},
		{split, pressed(0, 0, 1, 0, 3, 0, 4, 0, 5, 0), api.OK},
		{split, pressed(0, 0, 2, 0), api.ErrPress},
		{split, pressed(6, 0), api.ErrPress},
		{split, pressed(-1, 0), api.ErrPress},
		{split, pressed(0, 1, 5, 0), api.ErrPress}, // in order for all cars together
		{split, pressed(0, 501), api.ErrPress},
		{split, pressed(0, -1), api.ErrPress},
		{split, pressed(0, 500), api.OK},
	} {
		if _, e := calls.Share(x.g, x.l); e != x.want {
			t.Errorf("Share(%v, %v): %d", x.g, x.l, e)
		}
		want := x.want
		if want == api.OK {
			want = api.ErrArg
		}
		if _, e := calls.Longest(x.g, x.l, make([]int, len(x.l)+1)); e != want {
			t.Errorf("Longest(%v, %v): %d", x.g, x.l, e)
		}
		if _, _, e := calls.Divide(x.g, 6); e == api.ErrCar != (x.want == api.ErrCar) {
			t.Errorf("Divide(%v): %d", x.g, e)
		}
	}
}

// TestShare is P7.8.
func TestShare(t *testing.T) {
	six := slices.Repeat(pressed(2, 0), 6)
	for _, x := range []struct {
		g    []api.Car
		l    []api.Press
		want []int
		e    api.Errno
	}{
		{group(), pressed(2, 0, 1, 0), []int{1, 0}, api.OK},
		{group(), nil, nil, api.OK},
		{group()[:1], pressed(2, 0, 1, 0), []int{0, 0}, api.OK},
		{cars(0, 2, 0, 2, 0, 2), pressed(1, 0), []int{0}, api.OK},
		{cars(0, 2, 0, 2, 0, 2), pressed(1, 0, 2, 0), []int{0, 1}, api.OK},
		{cars(0, 2, 0, 2), pressed(0, 0, 1, 0), []int{0, 1}, api.OK},
		{cars(0, 2, 0, 2), pressed(0, 0, 2, 0, 1, 0), []int{0, 1, 0}, api.OK}, // 2 is farther away for all
		{cars(3, 5, 0, 2), pressed(0, 0, 4, 0), []int{1, 0}, api.OK},
		{cars(0, 2, 2, 4), pressed(4, 0, 2, 0, 0, 0), []int{1, 0, 0}, api.OK},
		{group(), six, []int{1, 1, 1, 1, 1, 1}, api.OK},
		{group(), slices.Repeat(pressed(2, 0), 7), nil, api.ErrMany},
		{group(), slices.Concat(six, pressed(3, 0)), nil, api.ErrPress},
		{append(group(), api.Car{}), slices.Repeat(pressed(2, 0), 7), nil, api.ErrCar},
	} {
		if got, e := calls.Share(x.g, x.l); !slices.Equal(got, x.want) || e != x.e {
			t.Errorf("Share(%v, %v) = %v, %d", x.g, x.l, got, e)
		}
	}
}

// TestDivide is P7.9.
func TestDivide(t *testing.T) {
	far := cars(4, 5, 4, 5, 5, 5) // which floors they serve otherwise does not matter
	for _, x := range []struct {
		g      []api.Car
		floors int
		highs  []int
		worst  int
		e      api.Errno
	}{
		{group(), 3, []int{1, 2}, 3, api.OK},
		{group(), 2, []int{0, 1}, 0, api.OK},
		{group(), 6, []int{2, 5}, 11, api.OK}, // as with 3 5
		{group()[:1], 1, []int{0}, 0, api.OK},
		{group()[:1], 6, []int{5}, 19, api.OK},
		{group()[1:], 6, []int{5}, 29, api.OK},
		{far, 3, []int{0, 1, 2}, 0, api.OK},
		{far, 4, []int{0, 1, 3}, 3, api.OK}, // of those that are equal
		{far, 5, []int{0, 2, 4}, 3, api.OK},
		{far, 6, []int{1, 3, 5}, 3, api.OK},
		{[]api.Car{slow(), car()}, 3, []int{0, 2}, 3, api.OK},
		{[]api.Car{slow(), car()}, 5, []int{1, 4}, 7, api.OK},
		{[]api.Car{slow(), car()}, 4, []int{1, 3}, 5, api.OK},
		{group(), 1, nil, 0, api.ErrArg},
		{group(), 7, nil, 0, api.ErrArg},
		{group()[:1], 0, nil, 0, api.ErrArg},
		{far, 2, nil, 0, api.ErrArg},
		{group(), -1, nil, 0, api.ErrArg},
		{group(), math.MaxInt, nil, 0, api.ErrArg},
		{group(), math.MinInt, nil, 0, api.ErrArg},
		{nil, 0, nil, 0, api.ErrCar},
		{append(group(), api.Car{}), 1, nil, 0, api.ErrCar},
	} {
		highs, worst, e := calls.Divide(x.g, x.floors)
		if !slices.Equal(highs, x.highs) || worst != x.worst || e != x.e {
			t.Errorf("Divide(%v, %d) = %v, %d, %d", x.g, x.floors, highs, worst, e)
		}
	}
}
