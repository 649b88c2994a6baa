package chain_test

import (
	"math"
	"math/rand"
	"slices"
	"testing"

	"newel/api"
	"newel/chain"
)

// four and two are the chain C and the gauges of the chapter's examples; apart do not agree.
func four() api.Chain { return api.Chain{Links: 4, Pitch: 100, Limit: 110} }

func two() []api.Gauge {
	return []api.Gauge{{From: 0, To: 2, Says: span(203, 205)}, {From: 1, To: 4, Says: span(321, 324)}}
}

func apart() []api.Gauge { return append(two(), api.Gauge{From: 2, To: 4, Says: span(200, 211)}) }

func TestCheck(t *testing.T) {
	many := slices.Repeat([]api.Gauge{{To: 1}}, 41)
	for i, x := range []struct {
		c    api.Chain
		l    []api.Gauge
		want api.Errno
	}{
		{api.Chain{}, nil, api.ErrChain},
		{api.Chain{Links: 1, Pitch: 1, Limit: 1}, nil, api.OK},
		{api.Chain{Links: 24, Pitch: 1, Limit: 1}, nil, api.OK},
		{api.Chain{Links: 25, Pitch: 1, Limit: 1}, nil, api.ErrChain},
		{api.Chain{Links: 0, Pitch: 1, Limit: 1}, nil, api.ErrChain},
		{api.Chain{Links: -1, Pitch: 1, Limit: 1}, nil, api.ErrChain},
		{api.Chain{Links: 1, Pitch: 0, Limit: 1}, nil, api.ErrChain},
		{api.Chain{Links: 1, Pitch: 2, Limit: 1}, nil, api.ErrChain},
		{api.Chain{Links: 1, Pitch: 1, Limit: 100000}, nil, api.OK},
		{api.Chain{Links: 1, Pitch: 100000, Limit: 100000}, nil, api.OK},
		{api.Chain{Links: 1, Pitch: 1, Limit: 100001}, nil, api.ErrChain},
		{four(), nil, api.OK},
		{four(), []api.Gauge{}, api.OK},
		{four(), two(), api.OK},
		{four(), apart(), api.OK}, // Check never returns ErrNone
		{four(), many[:40], api.OK},
		{four(), many, api.ErrMany},
		{four(), make([]api.Gauge, 41), api.ErrMany}, // more than MaxGauges, before one that is not valid
		{four(), make([]api.Gauge, 40), api.ErrGauge},
		{api.Chain{}, make([]api.Gauge, 41), api.ErrChain},
		{four(), []api.Gauge{{From: 0, To: 4}}, api.OK},
		{four(), []api.Gauge{{From: 3, To: 4}}, api.OK},
		{four(), []api.Gauge{{From: 0, To: 5}}, api.ErrGauge},
		{four(), []api.Gauge{{From: 4, To: 5}}, api.ErrGauge},
		{four(), []api.Gauge{{From: -1, To: 4}}, api.ErrGauge},
		{four(), []api.Gauge{{From: 2, To: 2}}, api.ErrGauge},
		{four(), []api.Gauge{{From: 3, To: 2}}, api.ErrGauge},
		{four(), []api.Gauge{{To: 1, Says: span(0, 10000000)}}, api.OK},
		{four(), []api.Gauge{{To: 1, Says: span(10000000, 10000000)}}, api.OK},
		{four(), []api.Gauge{{To: 1, Says: span(0, 10000001)}}, api.ErrGauge},
		{four(), []api.Gauge{{To: 1, Says: span(-1, 1)}}, api.ErrGauge},
		{four(), []api.Gauge{{To: 1, Says: span(2, 1)}}, api.ErrGauge},
		{four(), append(two(), api.Gauge{}), api.ErrGauge},
	} {
		if e := chain.Check(x.c, x.l); e != x.want {
			t.Errorf("%d: Check(%+v, %v) = %d, want %d", i, x.c, x.l, e, x.want)
		}
	}
}

func TestLinks(t *testing.T) {
	for i, x := range []struct {
		c    api.Chain
		l    []api.Gauge
		want []api.Span
		e    api.Errno
	}{
		{four(), two(), []api.Span{span(100, 104), span(101, 105), span(106, 110), span(106, 110)}, api.OK},
		{four(), nil, slices.Repeat([]api.Span{span(100, 110)}, 4), api.OK},
		{api.Chain{Links: 1, Pitch: 7, Limit: 7}, nil, []api.Span{span(7, 7)}, api.OK},
		{api.Chain{Links: 1, Pitch: 7, Limit: 9}, []api.Gauge{{To: 1, Says: span(0, 8)}, {To: 1, Says: span(8, 100)}}, []api.Span{span(8, 8)}, api.OK},
		{api.Chain{Links: 2, Pitch: 1, Limit: 9}, []api.Gauge{{To: 2, Says: span(18, 18)}}, []api.Span{span(9, 9), span(9, 9)}, api.OK},
		{api.Chain{Links: 2, Pitch: 1, Limit: 9}, []api.Gauge{{To: 2, Says: span(19, 19)}}, nil, api.ErrNone},
		{four(), apart(), nil, api.ErrNone},
		{four(), []api.Gauge{{To: 1}}, nil, api.ErrNone}, // no link is 0 long
		{four(), []api.Gauge{{To: 1, Says: span(10000000, 10000000)}}, nil, api.ErrNone},
	} {
		if l, e := chain.Links(x.c, x.l); e != x.e || !slices.Equal(l, x.want) {
			t.Errorf("%d: Links = %v, %d, want %v, %d", i, l, e, x.want, x.e)
		}
	}
}

func TestLinksAndRunsAreThoseOfAllLengths(t *testing.T) {
	r := rand.New(rand.NewSource(1))
	none := 0
	for range 1500 {
		c := anyChain(r)
		l := anyGauges(r, c, r.Intn(5), r.Intn(2) == 0)
		links, e := chain.Links(c, l)
		for from := range c.Links + 1 {
			for to := from; to <= c.Links; to++ {
				want, is := refRun(c, l, from, to)
				n, f := chain.Run(c, l, from, to)
				if n != want || is != (f == api.OK) || !is && f != api.ErrNone || e != f {
					t.Fatalf("Run(%+v, %v, %d, %d) = %v, %d, want %v, %v; Links: %d", c, l, from, to, n, f, want, is, e)
				}
				if to == from+1 && is && links[from] != want {
					t.Fatalf("Links(%+v, %v) = %v, want %v of %d", c, l, links, want, from)
				}
			}
		}
		if e == api.OK && len(links) != c.Links || e != api.OK && len(links) > 0 {
			t.Fatalf("Links(%+v, %v) = %v, %d", c, l, links, e)
		}
		if e == api.ErrNone {
			none++
		}
	}
	if none < 100 || none > 1400 {
		t.Errorf("%d of 1500 have no lengths", none)
	}
}

func TestRun(t *testing.T) {
	for _, x := range []struct {
		from, to int
		l        []api.Gauge
		want     api.Span
		e        api.Errno
	}{
		{0, 4, two(), span(421, 425), api.OK},
		{0, 0, two(), api.Span{}, api.OK},
		{2, 2, two(), api.Span{}, api.OK},
		{4, 4, two(), api.Span{}, api.OK},
		{0, 2, two(), span(203, 205), api.OK},
		{0, 4, nil, span(400, 440), api.OK},
		{-1, 4, two(), api.Span{}, api.ErrArg},
		{0, 5, two(), api.Span{}, api.ErrArg},
		{5, 5, two(), api.Span{}, api.ErrArg},
		{3, 2, two(), api.Span{}, api.ErrArg},
		{-1, -1, two(), api.Span{}, api.ErrArg},
		{0, 4, apart(), api.Span{}, api.ErrNone},
		{2, 2, apart(), api.Span{}, api.ErrNone},
		{3, 2, apart(), api.Span{}, api.ErrArg}, // before ErrNone
	} {
		if s, e := chain.Run(four(), x.l, x.from, x.to); s != x.want || e != x.e {
			t.Errorf("Run(%d, %d) = %v, %d, want %v, %d", x.from, x.to, s, e, x.want, x.e)
		}
	}
}

func TestLongest(t *testing.T) {
	for _, x := range []struct {
		many       int
		l          []api.Gauge
		from, most int
		e          api.Errno
	}{
		{2, two(), 2, 220, api.OK},
		{4, two(), 0, 425, api.OK},
		{1, two(), 2, 110, api.OK},
		{1, nil, 0, 110, api.OK}, // all of them may: the first one
		{3, nil, 0, 330, api.OK},
		{0, two(), 0, 0, api.ErrArg},
		{-1, two(), 0, 0, api.ErrArg},
		{5, two(), 0, 0, api.ErrArg},
		{0, apart(), 0, 0, api.ErrArg},
		{4, apart(), 0, 0, api.ErrNone},
	} {
		if from, most, e := chain.Longest(four(), x.l, x.many); from != x.from || most != x.most || e != x.e {
			t.Errorf("Longest(%v, %d) = %d, %d, %d, want %d, %d, %d", x.l, x.many, from, most, e, x.from, x.most, x.e)
		}
	}
}

func TestLongestIsThatOfAllLengths(t *testing.T) {
	r := rand.New(rand.NewSource(2))
	for range 1000 {
		c := anyChain(r)
		l := anyGauges(r, c, r.Intn(5), true)
		many := 1 + r.Intn(c.Links)
		first, longest := 0, 0
		for from := range c.Links - many + 1 {
			if s, _ := refRun(c, l, from, from+many); s.High > longest {
				first, longest = from, s.High
			}
		}
		if from, most, e := chain.Longest(c, l, many); from != first || most != longest || e != api.OK {
			t.Fatalf("Longest(%+v, %v, %d) = %d, %d, %d, want %d, %d", c, l, many, from, most, e, first, longest)
		}
	}
}

func TestWitness(t *testing.T) {
	for _, x := range []struct {
		from, to, length int
		l                []api.Gauge
		want             []int
		e                api.Errno
	}{
		{0, 4, 421, two(), []int{100, 103, 108, 110}, api.OK},
		{0, 4, 425, two(), []int{101, 104, 110, 110}, api.OK},
		{0, 4, 420, two(), nil, api.ErrArg},
		{0, 4, 426, two(), nil, api.ErrArg},
		{3, 3, 0, two(), []int{100, 103, 108, 110}, api.OK},
		{3, 3, 1, two(), nil, api.ErrArg},
		{3, 3, -1, two(), nil, api.ErrArg},
		{0, 4, 440, nil, []int{110, 110, 110, 110}, api.OK},
		{1, 3, 213, nil, []int{100, 103, 110, 100}, api.OK},
		{0, 4, math.MinInt, two(), nil, api.ErrArg},
		{0, 4, math.MaxInt, two(), nil, api.ErrArg},
		{3, 2, 100, two(), nil, api.ErrArg},
		{3, 2, 100, apart(), nil, api.ErrArg},  // what is wrong with the run stands before ErrNone
		{0, 4, -1, apart(), nil, api.ErrNone},  // and what is wrong with the length behind it
		{0, 4, 421, apart(), nil, api.ErrNone}, // also a length that might be
		{0, 5, -1, []api.Gauge{{}}, nil, api.ErrGauge},
	} {
		if l, e := chain.Witness(four(), x.l, x.from, x.to, x.length); e != x.e || !slices.Equal(l, x.want) {
			t.Errorf("Witness(%v, %d, %d, %d) = %v, %d, want %v, %d", x.l, x.from, x.to, x.length, l, e, x.want, x.e)
		}
	}
}

func TestWitnessIsTheFirstOfAllLengths(t *testing.T) {
	r := rand.New(rand.NewSource(3))
	for range 600 {
		c := anyChain(r)
		l := anyGauges(r, c, r.Intn(5), true)
		from := r.Intn(c.Links + 1)
		to := from + r.Intn(c.Links-from+1)
		possible := lengths(c, l)
		s, _ := refRun(c, l, from, to)
		for length := s.Low - 1; length <= s.High+1; length++ {
			i := slices.IndexFunc(possible, func(links []int) bool { return sum(links[from:to]) == length })
			var want []int
			if i >= 0 {
				want = possible[i]
			}
			if links, e := chain.Witness(c, l, from, to, length); !slices.Equal(links, want) || (e == api.OK) != (i >= 0) || i < 0 && e != api.ErrArg {
				t.Fatalf("Witness(%+v, %v, %d, %d, %d) = %v, %d, want %v", c, l, from, to, length, links, e, want)
			}
		}
	}
}

func TestConflict(t *testing.T) {
	short := api.Gauge{From: 0, To: 4, Says: span(0, 399)}
	for i, x := range []struct {
		l    []api.Gauge
		want []int
		e    api.Errno
	}{
		{apart(), []int{0, 1, 2}, api.OK},
		{two(), nil, api.ErrNone},
		{nil, nil, api.ErrNone},
		{[]api.Gauge{short}, []int{0}, api.OK},
		{[]api.Gauge{short, short}, []int{1}, api.OK}, // the first one is taken away first
		{append(apart(), short), []int{3}, api.OK},
		{append([]api.Gauge{short}, apart()...), []int{1, 2, 3}, api.OK},
	} {
		if l, e := chain.Conflict(four(), x.l); e != x.e || !slices.Equal(l, x.want) {
			t.Errorf("%d: Conflict = %v, %d, want %v, %d", i, l, e, x.want, x.e)
		}
	}
}

func TestConflictIsAsTheTextSays(t *testing.T) {
	r := rand.New(rand.NewSource(4))
	some, more := 0, 0
	for range 2000 {
		c := anyChain(r)
		l := anyGauges(r, c, r.Intn(8), false)
		clash := func(l []api.Gauge) bool { return len(lengths(c, l)) == 0 }
		got, e := chain.Conflict(c, l)
		if !clash(l) {
			if e != api.ErrNone || len(got) > 0 {
				t.Fatalf("Conflict(%+v, %v) = %v, %d", c, l, got, e)
			}
			continue
		}
		some++
		want := refNeeded(l, clash)
		if len(want) > 1 {
			more++
		}
		if e != api.OK || !slices.Equal(got, want) {
			t.Fatalf("Conflict(%+v, %v) = %v, %d, want %v", c, l, got, e, want)
		}
	}
	if some < 300 || more < 100 {
		t.Errorf("%d do not agree, %d of them by several gauges", some, more)
	}
}

func TestWhy(t *testing.T) {
	for i, x := range []struct {
		from, to, most int
		l              []api.Gauge
		want           []int
		e              api.Errno
	}{
		{0, 2, 205, two(), []int{0}, api.OK},
		{0, 2, 209, two(), []int{0}, api.OK},
		{0, 2, 204, two(), nil, api.ErrNone},
		{0, 2, 220, two(), nil, api.OK}, // so it is without any gauge
		{0, 4, 425, two(), []int{0}, api.OK},
		{0, 4, 434, two(), []int{1}, api.OK},
		{0, 4, 424, two(), nil, api.ErrNone},
		{3, 3, 0, two(), nil, api.OK},
		{3, 3, -1, two(), nil, api.ErrNone},
		{0, 4, math.MaxInt, two(), nil, api.OK},
		{0, 4, math.MinInt, two(), nil, api.ErrNone},
		{0, 4, 440, nil, nil, api.OK},
		{0, 4, 439, nil, nil, api.ErrNone},
		{0, 4, -1, apart(), []int{0, 1, 2}, api.OK}, // no lengths are possible: never ErrNone
		{0, 4, 424, apart(), []int{0, 2}, api.OK},   // without the second one they agree again, and it is at most 416
		{0, 4, 440, apart(), nil, api.OK},
		{0, 5, 440, apart(), nil, api.ErrArg},
		{3, 2, 440, apart(), nil, api.ErrArg},
		{-1, 2, 440, two(), nil, api.ErrArg},
	} {
		if l, e := chain.Why(four(), x.l, x.from, x.to, x.most); e != x.e || !slices.Equal(l, x.want) {
			t.Errorf("%d: Why(%d, %d, %d) = %v, %d, want %v, %d", i, x.from, x.to, x.most, l, e, x.want, x.e)
		}
	}
}

func TestWhyIsAsTheTextSays(t *testing.T) {
	r := rand.New(rand.NewSource(5))
	none, clash, some := 0, 0, 0
	for range 2000 {
		c := anyChain(r)
		l := anyGauges(r, c, r.Intn(6), r.Intn(3) > 0)
		from := r.Intn(c.Links)
		to := from + r.Intn(c.Links-from+1)
		most := (to-from)*c.Limit - r.Intn(6)
		short := func(l []api.Gauge) bool {
			s, is := refRun(c, l, from, to)
			return !is || s.High <= most
		}
		got, e := chain.Why(c, l, from, to, most)
		if !short(l) {
			none++
			if e != api.ErrNone || len(got) > 0 {
				t.Fatalf("Why(%+v, %v, %d, %d, %d) = %v, %d", c, l, from, to, most, got, e)
			}
			continue
		}
		if len(lengths(c, l)) == 0 {
			clash++
		}
		if want := refNeeded(l, short); e != api.OK || !slices.Equal(got, want) {
			t.Fatalf("Why(%+v, %v, %d, %d, %d) = %v, %d, want %v", c, l, from, to, most, got, e, want)
		}
		if len(got) > 0 {
			some++
		}
	}
	if none < 200 || clash < 100 || some < 200 {
		t.Errorf("%d may be longer, %d do not agree, %d need gauges", none, clash, some)
	}
}

func TestSkew(t *testing.T) {
	exact := func(says ...int) []api.Gauge {
		var l []api.Gauge
		for i, n := range says {
			l = append(l, api.Gauge{From: i, To: i + 1, Says: span(n, n)})
		}
		return l
	}
	for i, x := range []struct {
		k, l     []api.Gauge
		every    int
		at, most int
		e        api.Errno
	}{
		{two(), two(), 2, 4, 4, api.OK},
		{two(), two(), 1, 1, 4, api.OK},
		{two(), two(), 3, 3, 4, api.OK}, // the end 3, and no other
		{nil, nil, 3, 3, 30, api.OK},
		{two(), nil, 4, 4, 25, api.OK},
		{nil, two(), 4, 4, 25, api.OK},
		{exact(100, 101, 102, 103), exact(100, 101, 102, 103), 2, 2, 0, api.OK},
		{exact(105, 100, 100, 100), exact(100, 105, 100, 100), 1, 1, 5, api.OK},
		{exact(105, 100, 100, 100), exact(100, 105, 100, 100), 2, 2, 0, api.OK},
		{exact(100, 100, 105, 100), exact(100, 105, 100, 100), 1, 2, 5, api.OK},
		{two(), two(), 0, 0, 0, api.ErrArg},
		{two(), two(), -1, 0, 0, api.ErrArg},
		{two(), two(), 5, 0, 0, api.ErrArg},
		{apart(), two(), 5, 0, 0, api.ErrArg},
		{apart(), two(), 2, 0, 0, api.ErrNone},
		{two(), apart(), 2, 0, 0, api.ErrNone},
		{two(), apart(), 0, 0, 0, api.ErrArg},
	} {
		if at, most, e := chain.Skew(four(), x.k, four(), x.l, x.every); at != x.at || most != x.most || e != x.e {
			t.Errorf("%d: Skew = %d, %d, %d, want %d, %d, %d", i, at, most, e, x.at, x.most, x.e)
		}
	}
}

// TestSkewErrors: those of the first chain and its gauges, those of the second one, then the rest.
func TestSkewErrors(t *testing.T) {
	none, three := api.Chain{}, api.Chain{Links: 3, Pitch: 1, Limit: 2}
	many, wrong := make([]api.Gauge, 41), make([]api.Gauge, 1)
	for i, x := range []struct {
		a     api.Chain
		k     []api.Gauge
		b     api.Chain
		l     []api.Gauge
		every int
		want  api.Errno
	}{
		{none, many, none, many, 0, api.ErrChain},
		{four(), many, none, nil, 0, api.ErrMany},
		{four(), wrong, none, nil, 0, api.ErrGauge},
		{four(), apart(), none, many, 0, api.ErrChain},
		{four(), apart(), three, many, 0, api.ErrMany},
		{four(), apart(), three, wrong, 0, api.ErrGauge},
		{four(), apart(), three, nil, 1, api.ErrArg},
		{three, nil, four(), apart(), 1, api.ErrArg},
		{four(), nil, three, nil, 1, api.ErrArg},
		{three, nil, three, nil, 4, api.ErrArg},
		{three, nil, three, nil, 3, api.OK},
	} {
		at, most, e := chain.Skew(x.a, x.k, x.b, x.l, x.every)
		if e != x.want || e != api.OK && (at != 0 || most != 0) {
			t.Errorf("%d: Skew = %d, %d, %d, want %d", i, at, most, e, x.want)
		}
	}
}

func TestSkewIsThatOfAllLengths(t *testing.T) {
	r := rand.New(rand.NewSource(6))
	for range 300 {
		a, b := anyChain(r), anyChain(r)
		a.Links, b.Links = min(a.Links, 4), min(a.Links, 4)
		k, l := anyGauges(r, a, r.Intn(4), true), anyGauges(r, b, r.Intn(4), true)
		every := 1 + r.Intn(a.Links)
		first, greatest := refSkew(lengths(a, k), lengths(b, l), a.Links, every)
		if at, most, e := chain.Skew(a, k, b, l, every); at != first || most != greatest || e != api.OK {
			t.Fatalf("Skew(%+v, %v, %+v, %v, %d) = %d, %d, %d, want %d, %d", a, k, b, l, every, at, most, e, first, greatest)
		}
	}
}

// TestWideChains: as many links and gauges as there may be, with sums as great as they may be, agree or do not as shortest ways tell.
func TestWideChains(t *testing.T) {
	r := rand.New(rand.NewSource(7))
	var seen [2]int
	for range 400 {
		c := api.Chain{Links: api.MaxLinks, Pitch: 1 + r.Intn(1000)}
		c.Limit = c.Pitch + r.Intn(api.MaxLength-c.Pitch)
		l := anyGauges(r, c, api.MaxGauges, r.Intn(2) == 0)
		if r.Intn(3) == 0 {
			l[r.Intn(len(l))].Says = span(api.MaxSum, api.MaxSum)
		}
		if r.Intn(3) == 0 {
			l[r.Intn(len(l))].Says = api.Span{}
		}
		from := r.Intn(c.Links + 1)
		far, is := ends(c, l, from)
		seen[map[bool]int{true: 1}[is]]++
		for to := from; to <= c.Links; to++ {
			s, e := chain.Run(c, l, from, to)
			if is != (e == api.OK) || is && s.High != far[to] || !is && e != api.ErrNone {
				t.Fatalf("Run(%+v, %v, %d, %d) = %v, %d, want %v, %v", c, l, from, to, s, e, far, is)
			}
		}
	}
	if seen[0] < 50 || seen[1] < 50 {
		t.Errorf("%d do not agree, %d do", seen[0], seen[1])
	}
}

// TestGreatConflicts: gauges that contradict each other by as much as they can, everywhere.
func TestGreatConflicts(t *testing.T) {
	c := api.Chain{Links: api.MaxLinks, Pitch: 1, Limit: api.MaxLength}
	r := rand.New(rand.NewSource(8))
	for range 200 {
		var l []api.Gauge
		for i := range api.MaxGauges {
			g := api.Gauge{From: r.Intn(c.Links - 1)}
			g.To = g.From + 1 + r.Intn(c.Links-g.From)
			if i%2 == 0 {
				g.Says = span(api.MaxSum, api.MaxSum)
			}
			l = append(l, g)
		}
		got, e := chain.Conflict(c, l)
		if e != api.OK || !slices.Equal(got, []int{39}) {
			t.Fatalf("Conflict(%v) = %v, %d", l, got, e)
		}
	}
}
