package circuit_test

import (
	"math"
	"math/rand"
	"slices"
	"testing"

	"newel/api"
	"newel/circuit"
)

// four are the trials of C, and six those of CD, of the chapter's examples.
func four() []api.Trial {
	return []api.Trial{{Hazards: 1, Wire: 1}, {Hazards: 1, Wire: 2}, {Hazards: 1, Wire: 0}, {Hazards: 2, Wire: 0}}
}

func six() []api.Trial {
	return append(four(), api.Trial{Hazards: 2, Wire: 3}, api.Trial{Hazards: 2, Wire: 4})
}

func TestShows(t *testing.T) {
	all := []api.Trial{{Hazards: 3, Wire: 0}, {Hazards: 0, Wire: 0}, {Hazards: 1, Wire: 0}}
	for i, x := range []struct {
		c     api.Circuit
		l     []api.Trial
		trial int
		want  []int
		e     api.Errno
	}{
		{combs(), four(), 0, []int{0}, api.OK},
		{combs(), four(), 1, []int{1}, api.OK},
		{combs(), four(), 2, nil, api.OK},
		{combs(), four(), 3, []int{2}, api.OK},
		{rails(), six(), 2, nil, api.OK},
		{rails(), six(), 3, nil, api.OK},
		{rails(), six(), 4, []int{2}, api.OK},
		{rails(), six(), 5, []int{3}, api.OK},
		{beside(), all, 0, []int{0, 1}, api.OK},
		{beside(), all, 1, nil, api.OK}, // no hazard: it conducts without them, too
		{beside(), all, 2, nil, api.OK}, // so it does by the other wire
		{combs(), four(), -1, nil, api.ErrArg},
		{combs(), four(), 4, nil, api.ErrArg},
		{combs(), nil, 0, nil, api.ErrArg},
		{combs(), four(), math.MinInt, nil, api.ErrArg},
	} {
		if l, e := circuit.Shows(x.c, x.l, x.trial); !slices.Equal(l, x.want) || e != x.e {
			t.Errorf("%d: Shows(%v, %d) = %v, %d, want %v, %d", i, x.l, x.trial, l, e, x.want, x.e)
		}
	}
}

func TestBlindAndFewest(t *testing.T) {
	l := four()
	for i, x := range []struct {
		c             api.Circuit
		l             []api.Trial
		blind, fewest []int
	}{
		{combs(), four(), nil, []int{0, 1, 3}},
		{combs(), []api.Trial{l[0], l[2]}, []int{1, 2}, []int{0}},
		{combs(), nil, []int{0, 1, 2}, nil},
		{combs(), []api.Trial{}, []int{0, 1, 2}, nil},
		{combs(), []api.Trial{l[2]}, []int{0, 1, 2}, nil}, // it shows nothing
		{combs(), []api.Trial{l[0], l[1], l[1], l[0]}, []int{2}, []int{0, 1}},
		{rails(), six(), nil, []int{0, 1, 4, 5}},
		// 0 shows both switches, but so do 1 and 2, and 3 alone
		{beside(), []api.Trial{{Hazards: 1, Wire: 1}, {Hazards: 2, Wire: 2}, {Hazards: 3, Wire: 0}, {Hazards: 3, Wire: 0}}, nil, []int{2}},
	} {
		if l, e := circuit.Blind(x.c, x.l); !slices.Equal(l, x.blind) || e != api.OK {
			t.Errorf("%d: Blind = %v, %d, want %v", i, l, e, x.blind)
		}
		if l, e := circuit.Fewest(x.c, x.l); !slices.Equal(l, x.fewest) || e != api.OK {
			t.Errorf("%d: Fewest = %v, %d, want %v", i, l, e, x.fewest)
		}
	}
}

// overlapping is a circuit with a wire for each two of four switches in a row: the trials 0 to 5 show 0 1, 1 2, 2 3, 0, 3, and all but 3.
func overlapping() (api.Circuit, []api.Trial) {
	c := api.Circuit{Hazards: 1, Switches: []int{1, 1, 1, 1}, Wires: []api.Wire{
		series(1, 4, 7, 10), parallel(2, 3), single(0), single(1), parallel(5, 6), single(1), single(2), parallel(8, 9), single(2), single(3),
		parallel(11, 12), parallel(13, 14), parallel(15, 16), single(0), single(1), single(2), single(2)}}
	return c, []api.Trial{{Hazards: 1, Wire: 1}, {Hazards: 1, Wire: 4}, {Hazards: 1, Wire: 7}, {Hazards: 1, Wire: 2}, {Hazards: 1, Wire: 9}, {Hazards: 1, Wire: 10}}
}

func TestFewestOfSeveral(t *testing.T) {
	c, l := overlapping()
	for _, x := range []struct{ which, want []int }{
		{[]int{0, 1, 2, 3, 4, 5}, []int{0, 2}},
		{[]int{1, 5, 4, 3, 2}, []int{1, 2}},
		{[]int{4, 2, 0, 5}, []int{0, 3}}, // and not the second and the third one, whose set has a lesser number
		{[]int{3, 4, 1, 0}, []int{0, 1, 2}},
		{[]int{1, 3, 4, 2, 0, 0}, []int{3, 4}},
	} {
		if got, e := circuit.Fewest(c, pick(l, x.which)); !slices.Equal(got, x.want) || e != api.OK {
			t.Errorf("Fewest of %v = %v, %d, want %v", x.which, got, e, x.want)
		}
	}
}

func TestTrialsAreAsTheTextSays(t *testing.T) {
	r := rand.New(rand.NewSource(11))
	shown, several := 0, 0
	for range 1500 {
		c := anyCircuit(r, 4, 12, 24)
		l := anyTrials(r, c, 8)
		for i, trial := range l {
			got, e := circuit.Shows(c, l, i)
			if e != api.OK || !slices.Equal(got, refShows(c, trial)) {
				t.Fatalf("Shows(%+v, %v, %d) = %v, %d", c, l, i, got, e)
			}
			shown += len(got)
		}
		if got, e := circuit.Blind(c, l); e != api.OK || !slices.Equal(got, refBlind(c, l)) {
			t.Fatalf("Blind(%+v, %v) = %v, %d", c, l, got, e)
		}
		got, e := circuit.Fewest(c, l)
		if e != api.OK || !slices.Equal(got, refFewest(c, l)) {
			t.Fatalf("Fewest(%+v, %v) = %v, %d, want %v", c, l, got, e, refFewest(c, l))
		}
		if len(got) > 1 {
			several++
		}
	}
	if shown < 1000 || several < 100 {
		t.Errorf("%d shown, %d times by several", shown, several)
	}
}

func TestFewestOfManyTrials(t *testing.T) {
	r := rand.New(rand.NewSource(12))
	for range 30 {
		c := anyCircuit(r, 8, 12, 24)
		l := append(oneEach(r, c, 12), anyTrials(r, c, 12)...)
		l = l[:min(12, len(l))]
		if got, e := circuit.Fewest(c, l); e != api.OK || !slices.Equal(got, refFewest(c, l)) {
			t.Fatalf("Fewest(%+v, %v) = %v, %d", c, l, got, e)
		}
	}
}
