package lift_test

import (
	"slices"
	"testing"

	"newel/api"
	"newel/lift"
)

func door(wide, wait int) api.Door { return api.Door{Wide: wide, Wait: wait} }

// TestDoors is P5.10.
func TestDoors(t *testing.T) {
	plain := []int{1, 2, 3, 3, 3, 2, 1, 0}
	everyTick := func(from, n int) []int {
		var breaks []int
		for i := range n {
			breaks = append(breaks, from+i)
		}
		return breaks
	}
	for _, c := range []struct {
		d            api.Door
		breaks, want []int
		e            api.Errno
	}{
		{door(3, 2), nil, plain, api.OK},
		{door(3, 2), []int{}, plain, api.OK},
		{door(3, 2), []int{4}, []int{1, 2, 3, 3, 3, 3, 2, 1, 0}, api.OK},
		{door(3, 2), []int{7}, []int{1, 2, 3, 3, 3, 2, 1, 2, 3, 3, 3, 2, 1, 0}, api.OK},
		{door(3, 2), []int{1}, plain, api.OK},
		{door(3, 2), []int{0, 1, 2}, plain, api.OK}, // it opens all the same
		{door(3, 2), []int{3}, plain, api.OK},       // it waits from the beginning already
		{door(3, 2), []int{5}, []int{1, 2, 3, 3, 3, 3, 3, 2, 1, 0}, api.OK},
		{door(3, 2), []int{6}, []int{1, 2, 3, 3, 3, 2, 3, 3, 3, 2, 1, 0}, api.OK},
		{door(3, 2), []int{8, 9, 100000}, plain, api.OK}, // it is closed
		{door(3, 2), []int{7, 8, 9}, []int{1, 2, 3, 3, 3, 2, 1, 2, 3, 3, 3, 2, 1, 0}, api.OK},
		{door(3, 2), []int{3, 4, 5, 6}, []int{1, 2, 3, 3, 3, 3, 3, 3, 2, 1, 0}, api.OK},
		{door(1, 0), nil, []int{1, 0}, api.OK},
		{door(1, 0), []int{0, 1, 2}, []int{1, 0}, api.OK}, // it never waits
		{door(2, 0), []int{2}, []int{1, 2, 1, 0}, api.OK},
		{door(2, 0), []int{3}, []int{1, 2, 1, 2, 1, 0}, api.OK},
		{door(1, 1), nil, []int{1, 1, 0}, api.OK},
		{door(1, 1), []int{1}, []int{1, 1, 0}, api.OK},
		{door(1, 1), []int{2, 3}, []int{1, 1, 1, 1, 0}, api.OK},
		{door(1, 1), everyTick(2, 20), append(slices.Repeat([]int{1}, 22), 0), api.OK},
		{door(1, 1), everyTick(2, 21), nil, api.ErrArg},
		{door(3, 2), []int{4, 4}, nil, api.ErrArg},
		{door(3, 2), []int{5, 4}, nil, api.ErrArg},
		{door(3, 2), []int{-1}, nil, api.ErrArg},
		{door(3, 2), []int{100001}, nil, api.ErrArg},
		{door(0, 2), nil, nil, api.ErrDoor},
		{door(51, 2), nil, nil, api.ErrDoor},
		{door(3, -1), nil, nil, api.ErrDoor},
		{door(3, 201), nil, nil, api.ErrDoor},
	} {
		got, e := lift.Doors(c.d, c.breaks)
		if !slices.Equal(got, c.want) || e != c.e {
			t.Errorf("Doors of %v with %v = %v, %d", c.d, c.breaks, got, e)
		}
	}
	got, e := lift.Doors(door(50, 200), nil)
	if len(got) != 300 || e != api.OK || got[49] != 50 || got[48] != 49 || got[249] != 50 || got[250] != 49 || got[299] != 0 {
		t.Errorf("Doors of the widest door = %v, %d", got, e)
	}
}

// TestDwell is P5.11.
func TestDwell(t *testing.T) {
	for _, c := range []struct {
		d       api.Door
		n, want int
		e       api.Errno
	}{
		{door(3, 2), 0, 8, api.OK},
		{door(3, 2), 1, 14, api.OK},
		{door(3, 2), 2, 20, api.OK},
		{door(3, 2), 20, 128, api.OK},
		{door(1, 0), 0, 2, api.OK},
		{door(1, 0), 20, 2, api.OK},
		{door(1, 1), 20, 23, api.OK},
		{door(2, 0), 1, 6, api.OK},
		{door(50, 200), 20, 300 + 20*298, api.OK},
		{door(3, 2), -1, 0, api.ErrArg},
		{door(3, 2), 21, 0, api.ErrArg},
		{door(0, 2), 0, 0, api.ErrDoor},
		{door(51, 2), 0, 0, api.ErrDoor},
		{door(3, -1), 0, 0, api.ErrDoor},
		{door(3, 201), 0, 0, api.ErrDoor},
	} {
		got, e := lift.Dwell(c.d, c.n)
		if got != c.want || e != c.e {
			t.Errorf("Dwell of %v with %d = %d, %d", c.d, c.n, got, e)
		}
	}
}

// TestTurn is P5.12.
func TestTurn(t *testing.T) {
	for _, c := range []struct {
		d                 api.Door
		from, to, n, want int
		e                 api.Errno
	}{
		{door(3, 2), 0, 1, 1, 21, api.OK},
		{door(3, 2), 1, 0, 0, 15, api.OK},
		{door(3, 2), 2, 2, 2, 20, api.OK},
		{door(3, 2), 0, 2, 20, 12 + 128, api.OK},
		{door(3, 2), 0, 1, -1, 0, api.ErrArg},
		{door(3, 2), 0, 1, 21, 0, api.ErrArg},
		{door(3, 2), 3, 1, 1, 0, api.ErrArg},
		{door(3, 2), 0, 3, 1, 0, api.ErrArg},
		{door(3, 2), -1, 0, 1, 0, api.ErrArg},
		{door(3, 2), 0, -1, 1, 0, api.ErrArg},
		{door(0, 2), 0, 1, 1, 0, api.ErrDoor},
	} {
		got, e := lift.Turn(l(), c.d, c.from, c.to, c.n)
		if got != c.want || e != c.e {
			t.Errorf("Turn of %v from %d to %d with %d = %d, %d", c.d, c.from, c.to, c.n, got, e)
		}
	}
}
