package circuit_test

import (
	"math"
	"math/rand"
	"slices"
	"testing"

	"newel/api"
	"newel/circuit"
)

// nights is a rota of these nights.
func nights(gap int, l ...[]int) api.Rota { return api.Rota{Nights: l, Gap: gap} }

func TestCheckRota(t *testing.T) {
	three := [][]int{{0}, {1}, {3}}
	for i, x := range []struct {
		c         api.Circuit
		l         []api.Trial
		r         api.Rota
		sw, night int
		is        bool
	}{
		{combs(), four(), nights(3, three...), 0, 0, true},
		{combs(), four(), nights(2, three...), 0, 1, false},
		{combs(), four(), nights(1, three...), 0, 1, false},
		{combs(), four(), nights(60, three...), 0, 0, true},
		{combs(), four(), nights(1, []int{0, 1, 3}), 0, 0, true},
		{combs(), four(), nights(1, []int{0, 1, 2, 3}), 0, 0, true},
		{combs(), four(), nights(60, []int{0, 1}), 2, 0, false}, // the switch 2 is never tried
		{combs(), four(), nights(60, nil), 0, 0, false},
		{combs(), nil, nights(60, nil, nil), 0, 0, false},
		{combs(), four(), nights(2, []int{0, 1}, []int{0, 3}, []int{1, 3}), 0, 0, true},
		{combs(), four(), nights(2, []int{0, 1}, []int{0, 3}, []int{3}), 1, 1, false},
		{combs(), four(), nights(3, []int{0}, []int{1}, []int{0, 3}, nil), 1, 2, false}, // over the end of the round
		{combs(), four(), nights(3, []int{0, 1, 3}, nil, nil, []int{0, 1, 3}), 0, 0, true},
		{combs(), four(), nights(2, []int{0, 1, 3}, nil, nil, []int{0, 1, 3}), 0, 1, false},
		{one(), []api.Trial{{Hazards: 1}}, nights(2, nil, []int{0}, nil), 0, 2, false},
		{one(), []api.Trial{{Hazards: 1}}, nights(3, nil, []int{0}, nil), 0, 0, true},
		{one(), []api.Trial{{Hazards: 1}}, nights(60, append(make([][]int, 59), []int{0})...), 0, 0, true},
		{one(), []api.Trial{{Hazards: 1}}, nights(59, append(make([][]int, 59), []int{0})...), 0, 0, false},
	} {
		sw, night, is, e := circuit.CheckRota(x.c, x.l, x.r)
		if sw != x.sw || night != x.night || is != x.is || e != api.OK {
			t.Errorf("%d: CheckRota(%v) = %d, %d, %v, %d, want %d, %d, %v", i, x.r, sw, night, is, e, x.sw, x.night, x.is)
		}
	}
}

func TestRotasThatAreNotValid(t *testing.T) {
	ok := []api.Upset{{Kind: api.Danger, Number: 1}}
	for i, x := range []struct {
		l []api.Trial
		r api.Rota
		e api.Errno
	}{
		{four(), nights(1, make([][]int, 60)...), api.OK},
		{four(), nights(60, nil), api.OK},
		{four(), nights(1, []int{0, 1, 2, 3}, []int{}), api.OK},
		{nil, nights(1, nil), api.OK},
		{four(), nights(1), api.ErrRota},
		{four(), nights(1, make([][]int, 61)...), api.ErrRota},
		{four(), nights(0, nil), api.ErrRota},
		{four(), nights(-1, nil), api.ErrRota},
		{four(), nights(61, nil), api.ErrRota},
		{four(), nights(math.MaxInt, nil), api.ErrRota},
		{four(), nights(1, nil, []int{4}), api.ErrRota},
		{four(), nights(1, []int{-1}), api.ErrRota},
		{four(), nights(1, []int{1, 1}), api.ErrRota},
		{four(), nights(1, []int{1, 0}), api.ErrRota},
		{four(), nights(1, []int{0, 4}, nil), api.ErrRota},
		{four(), nights(1, []int{math.MinInt}), api.ErrRota},
		{nil, nights(1, []int{0}), api.ErrRota},
	} {
		sw, night, is, e := circuit.CheckRota(combs(), x.l, x.r)
		if e != x.e || e != api.OK && (sw != 0 || night != 0 || is) {
			t.Errorf("%d: CheckRota = %d, %d, %v, %d, want %d", i, sw, night, is, e, x.e)
		}
		stuck, passed, e := circuit.Play(combs(), x.l, x.r, ok)
		if e != x.e || e != api.OK && len(stuck)+len(passed) > 0 {
			t.Errorf("%d: Play = %v, %v, %d, want %d", i, stuck, passed, e, x.e)
		}
	}
}

func TestCheckRotaIsAsTheTextSays(t *testing.T) {
	r := rand.New(rand.NewSource(21))
	accepted := 0
	for range 8000 {
		c := anyCircuit(r, 3, 4, 12)
		l := append(oneEach(r, c, 6), anyTrials(r, c, 4)...)
		rota := anyRota(r, len(l), 8)
		a, b, want := refCheckRota(c, l, rota)
		sw, night, is, e := circuit.CheckRota(c, l, rota)
		if sw != a || night != b || is != want || e != api.OK {
			t.Fatalf("CheckRota(%+v, %v, %v) = %d, %d, %v, %d, want %d, %d, %v", c, l, rota, sw, night, is, e, a, b, want)
		}
		if is {
			accepted++
		}
	}
	if accepted < 500 || accepted > 7500 {
		t.Errorf("%d of 8000 are accepted", accepted)
	}
}

func TestRota(t *testing.T) {
	twice := []api.Trial{{Hazards: 3, Wire: 0}, {Hazards: 1, Wire: 1}, {Hazards: 2, Wire: 2}}
	all := []api.Trial{{Hazards: 1}}
	for i, x := range []struct {
		c           api.Circuit
		l           []api.Trial
		nights, gap int
		want        []int
		e           api.Errno
	}{
		{combs(), four(), 3, 3, []int{0, 1, 3}, api.OK},
		{combs(), four(), 4, 4, []int{-1, 0, 1, 3}, api.OK},
		{combs(), four(), 2, 3, nil, api.ErrNone},
		{combs(), four(), 3, 2, nil, api.ErrNone},
		{combs(), four(), 6, 3, []int{0, 1, 3, 0, 1, 3}, api.OK},
		{combs(), four(), 4, 60, []int{-1, 0, 1, 3}, api.OK},
		{combs(), four(), 6, 6, []int{-1, -1, -1, 0, 1, 3}, api.OK},
		{combs(), four(), 5, 3, nil, api.ErrNone}, // three switches in each three nights: the round would have to be a multiple of three
		{beside(), twice, 2, 2, []int{-1, 0}, api.OK},
		{beside(), twice, 2, 1, []int{0, 0}, api.OK},
		{beside(), twice[1:], 2, 1, nil, api.ErrNone},
		{beside(), twice[1:], 2, 2, []int{0, 1}, api.OK},
		{one(), all, 1, 1, []int{0}, api.OK},
		{one(), all, 5, 2, []int{-1, 0, -1, 0, 0}, api.OK},
		{one(), append(all, all...), 1, 1, []int{0}, api.OK}, // two equal ones
		{one(), nil, 60, 60, nil, api.ErrNone},
		{one(), all, 14, 60, append(slices.Repeat([]int{-1}, 13), 0), api.OK}, // 2 to the power of 14 is 16384
		{one(), all, 15, 60, nil, api.ErrMany},
		{one(), all, 60, 60, nil, api.ErrMany},
		{one(), slices.Repeat(all, 2), 9, 60, append(slices.Repeat([]int{-1}, 8), 0), api.OK}, // 19683
		{one(), slices.Repeat(all, 2), 10, 60, nil, api.ErrMany},
		{one(), slices.Repeat(all, 12), 3, 1, []int{0, 0, 0}, api.OK},
		{one(), slices.Repeat(all, 12), 4, 1, nil, api.ErrMany},
		{one(), slices.Repeat(all, 11), 4, 1, nil, api.ErrMany}, // 20736
		{one(), slices.Repeat(all, 12), 60, 1, nil, api.ErrMany},
		{one(), slices.Repeat(all, 7), 60, 1, nil, api.ErrMany}, // 8 to the power of 60 is 0 in 64 bits
		{combs(), four(), 0, 3, nil, api.ErrArg},
		{combs(), four(), 61, 3, nil, api.ErrArg},
		{combs(), four(), 3, 0, nil, api.ErrArg},
		{combs(), four(), 3, 61, nil, api.ErrArg},
		{combs(), four(), 60, -1, nil, api.ErrArg}, // before ErrMany
		{combs(), four(), math.MaxInt, 1, nil, api.ErrArg},
		{combs(), nil, 60, 61, nil, api.ErrArg},
		{combs(), four()[2:3], 60, 1, nil, api.ErrMany}, // before ErrNone
	} {
		if l, e := circuit.Rota(x.c, x.l, x.nights, x.gap); !slices.Equal(l, x.want) || e != x.e {
			t.Errorf("%d: Rota(%d, %d) = %v, %d, want %v, %d", i, x.nights, x.gap, l, e, x.want, x.e)
		}
	}
}

func TestRotaIsAsTheTextSays(t *testing.T) {
	r := rand.New(rand.NewSource(22))
	found, gone := 0, 0
	for range 1500 {
		c := anyCircuit(r, 3, 3, 8)
		l := oneEach(r, c, 3)
		if len(l) < 3 {
			l = append(l, anyTrials(r, c, 3-len(l))...)
		}
		many, gap := 1+r.Intn(5), 1+r.Intn(6)
		want := refRota(c, l, many, gap)
		got, e := circuit.Rota(c, l, many, gap)
		if !slices.Equal(got, want) || want == nil && e != api.ErrNone || want != nil && e != api.OK {
			t.Fatalf("Rota(%+v, %v, %d, %d) = %v, %d, want %v", c, l, many, gap, got, e, want)
		}
		if want != nil {
			found++
			if slices.Contains(want, -1) {
				gone++
			}
		}
	}
	if found < 200 || found > 1400 || gone < 50 {
		t.Errorf("%d of 1500 found, %d with nights without a trial", found, gone)
	}
}
