package circuit_test

import (
	"math"
	"math/rand"
	"slices"
	"testing"

	"newel/api"
	"newel/circuit"
)

func sticks(night, sw int) api.Upset { return api.Upset{Night: night, Kind: api.Stuck, Number: sw} }

func danger(night, hazards int) api.Upset {
	return api.Upset{Night: night, Kind: api.Danger, Number: hazards}
}

func TestPlay(t *testing.T) {
	each := nights(4, []int{0}, []int{1}, []int{4}, []int{5})
	both := []api.Trial{{Hazards: 1, Wire: 0}, {Hazards: 1, Wire: 1}}
	for i, x := range []struct {
		c             api.Circuit
		l             []api.Trial
		r             api.Rota
		u             []api.Upset
		stuck, passed []int
	}{
		{rails(), six(), each, []api.Upset{sticks(1, 0), danger(2, 1), sticks(5, 1), danger(6, 1)}, []int{1, 1, 0, 0}, nil},
		{rails(), six(), each, []api.Upset{sticks(1, 0), sticks(2, 1), danger(2, 1), danger(6, 1)}, []int{1, 3, 0}, []int{2}},
		{rails(), six(), each, nil, nil, nil},
		{rails(), six(), each, []api.Upset{}, nil, nil},
		{rails(), six(), each, []api.Upset{sticks(0, 0)}, []int{0}, nil},               // the trial of the same night shows it
		{rails(), six(), each, []api.Upset{sticks(1, 0), sticks(1, 2)}, []int{5}, nil}, // one element for the night
		{rails(), six(), each, []api.Upset{sticks(1, 0), sticks(3, 0)}, []int{1, 1}, nil},
		{rails(), six(), each, []api.Upset{sticks(1, 0), danger(3, 3), danger(4, 3)}, []int{1, 1, 0}, nil},
		// one trial that shows what is stuck has all of it repaired
		{rails(), six(), each, []api.Upset{sticks(1, 0), sticks(1, 2), sticks(1, 3), danger(2, 2)}, []int{13, 0}, nil},
		{rails(), six(), nights(1, []int{0}), []api.Upset{sticks(0, 1), sticks(1, 0), sticks(2, 1)}, []int{2, 0, 2}, nil},
		// each hazard comes for itself, and a Danger repairs nothing
		{combs(), nil, nights(1, nil), []api.Upset{sticks(0, 2), danger(0, 1), danger(0, 2), danger(0, 3), danger(9, 2)}, []int{4, 4}, []int{2, 4}},
		// hazards of one Danger come together: both open a switch
		{beside(), nil, nights(1, nil), []api.Upset{danger(3, 1), danger(3, 2), danger(3, 3)}, []int{0}, []int{0, 1}},
		// together they let the wire 0 conduct, though neither does alone
		{wires(series(1, 2), single(0), single(1)), both[:1], nights(1, []int{0}), []api.Upset{sticks(0, 0), sticks(1, 1)}, []int{1, 0}, nil},
		{wires(series(1, 2), single(0), single(1)), both, nights(2, []int{0}, []int{1}), []api.Upset{sticks(0, 1), sticks(1, 0), danger(2, 1)}, []int{2, 0, 0}, nil},
		// the trials of a night are made in order, all of what is stuck is gone behind the first one that shows it
		{wires(series(1, 2), single(0), single(1)), both, nights(1, []int{0, 1}), []api.Upset{sticks(0, 1), sticks(1, 0), danger(2, 1)}, []int{2, 0, 0}, nil},
		// the last night; nights count modulo their number: 1000 is 1 of three
		{rails(), six(), nights(9, nil, []int{0}, nil), []api.Upset{sticks(999, 0), danger(1000, 1)}, []int{1, 0}, nil},
		{rails(), six(), nights(9, nil, nil, []int{0}), []api.Upset{sticks(999, 0), danger(1000, 1)}, []int{1, 1}, nil},
	} {
		stuck, passed, e := circuit.Play(x.c, x.l, x.r, x.u)
		if !slices.Equal(stuck, x.stuck) || !slices.Equal(passed, x.passed) || e != api.OK {
			t.Errorf("%d: Play(%v, %v) = %v, %v, %d, want %v, %v", i, x.r, x.u, stuck, passed, e, x.stuck, x.passed)
		}
	}
}

func TestUpsetsThatAreNotValid(t *testing.T) {
	for i, x := range []struct {
		u []api.Upset
		e api.Errno
	}{
		{slices.Repeat([]api.Upset{sticks(7, 0)}, 40), api.OK},
		{slices.Repeat([]api.Upset{sticks(7, 0)}, 41), api.ErrUpset},
		{make([]api.Upset, 41), api.ErrUpset},
		{[]api.Upset{{}}, api.ErrUpset},
		{[]api.Upset{sticks(0, 0)}, api.OK},
		{[]api.Upset{sticks(0, 2)}, api.OK},
		{[]api.Upset{sticks(0, 3)}, api.ErrUpset},
		{[]api.Upset{sticks(0, -1)}, api.ErrUpset},
		{[]api.Upset{sticks(0, math.MaxInt)}, api.ErrUpset},
		{[]api.Upset{danger(0, 0)}, api.ErrUpset},
		{[]api.Upset{danger(0, 1)}, api.OK},
		{[]api.Upset{danger(0, 3)}, api.OK},
		{[]api.Upset{danger(0, 4)}, api.ErrUpset},
		{[]api.Upset{danger(0, -1)}, api.ErrUpset},
		{[]api.Upset{{Kind: 0, Number: 1}}, api.ErrUpset},
		{[]api.Upset{{Kind: 3, Number: 1}}, api.ErrUpset},
		{[]api.Upset{{Kind: -1, Number: 1}}, api.ErrUpset},
		{[]api.Upset{sticks(-1, 0)}, api.ErrUpset},
		{[]api.Upset{sticks(1000, 0)}, api.OK},
		{[]api.Upset{sticks(1001, 0)}, api.ErrUpset},
		{[]api.Upset{danger(math.MaxInt, 1)}, api.ErrUpset},
		{[]api.Upset{sticks(2, 0), sticks(1, 0)}, api.ErrUpset},
		{[]api.Upset{danger(2, 1), danger(1, 1)}, api.ErrUpset},
		{[]api.Upset{sticks(2, 0), danger(2, 1)}, api.OK},
		{[]api.Upset{danger(2, 1), sticks(2, 0)}, api.ErrUpset},
		{[]api.Upset{danger(0, 1), danger(0, 2), sticks(0, 0)}, api.ErrUpset},
		{[]api.Upset{danger(2, 1), sticks(3, 0), danger(3, 1), danger(3, 2), sticks(4, 0)}, api.OK},
	} {
		stuck, passed, e := circuit.Play(combs(), four(), nights(1, nil), x.u)
		if e != x.e || e != api.OK && len(stuck)+len(passed) > 0 {
			t.Errorf("%d: Play(%v) = %v, %v, %d, want %d", i, x.u, stuck, passed, e, x.e)
		}
	}
}

func TestPlayIsAsTheTextSays(t *testing.T) {
	r := rand.New(rand.NewSource(23))
	passes, repairs := 0, 0
	for range 2000 {
		c := anyCircuit(r, 4, 8, 16)
		l := append(oneEach(r, c, 6), anyTrials(r, c, 6)...)
		rota := anyRota(r, len(l), 7)
		u := anyUpsets(r, c, 40, 1+r.Intn(25))
		stuck, passed := refPlay(c, l, rota, u)
		a, b, e := circuit.Play(c, l, rota, u)
		if !slices.Equal(a, stuck) || !slices.Equal(b, passed) || e != api.OK {
			t.Fatalf("Play(%+v, %v, %v, %v) = %v, %v, %d, want %v, %v", c, l, rota, u, a, b, e, stuck, passed)
		}
		passes += len(passed)
		for i := range stuck {
			if i > 0 && stuck[i-1]&^stuck[i] > 0 {
				repairs++
			}
		}
	}
	if passes < 1000 || repairs < 500 {
		t.Errorf("%d pass, %d repairs", passes, repairs)
	}
}
