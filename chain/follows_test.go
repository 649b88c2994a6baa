package chain_test

import (
	"math"
	"math/rand"
	"slices"
	"testing"

	"newel/api"
	"newel/chain"
)

// wideChain draws a chain that may have many links, and gauges with which some lengths are possible.
func wideChain(r *rand.Rand) (api.Chain, []api.Gauge) {
	c := api.Chain{Links: 1 + r.Intn(api.MaxLinks), Pitch: 1 + r.Intn(1000)}
	c.Limit = c.Pitch + r.Intn(50)
	return c, anyGauges(r, c, r.Intn(12), true)
}

func anyRun(r *rand.Rand, c api.Chain) (from, to int) {
	from = r.Intn(c.Links + 1)
	return from, from + r.Intn(c.Links-from+1)
}

// TestEachPossibleChain is P2.14.
func TestEachPossibleChain(t *testing.T) {
	r := rand.New(rand.NewSource(31))
	for range 1000 {
		c, l := wideChain(r)
		from, to := anyRun(r, c)
		run, e := chain.Run(c, l, from, to)
		if e != api.OK {
			t.Fatalf("Run(%+v, %v, %d, %d): %d", c, l, from, to, e)
		}
		links, _ := chain.Links(c, l)
		for _, length := range []int{run.Low, run.High, run.Low + r.Intn(run.High-run.Low+1)} {
			w, e := chain.Witness(c, l, from, to, length)
			if e != api.OK || len(w) != c.Links || sum(w[from:to]) != length {
				t.Fatalf("Witness(%+v, %v, %d, %d, %d) = %v, %d", c, l, from, to, length, w, e)
			}
			for _, g := range l {
				if !inside(g.Says, sum(w[g.From:g.To])) {
					t.Fatalf("Witness(%+v, %v, %d, %d, %d) = %v is not possible", c, l, from, to, length, w)
				}
			}
			for i, n := range w {
				if !inside(links[i], n) || !inside(span(c.Pitch, c.Limit), n) {
					t.Fatalf("Links(%+v, %v) = %v, but %v are possible", c, l, links, w)
				}
			}
			a, b := anyRun(r, c)
			if s, _ := chain.Run(c, l, a, b); !inside(s, sum(w[a:b])) {
				t.Fatalf("Run(%+v, %v, %d, %d) = %v, but %v are possible", c, l, a, b, s, w)
			}
			if _, most, _ := chain.Longest(c, l, max(1, b-a)); sum(w[a:b]) > most {
				t.Fatalf("Longest(%+v, %v, %d) = %d, but %v are possible", c, l, b-a, most, w)
			}
		}
	}
}

// lies reports whether the first span lies in the second one.
func lies(s, in api.Span) bool { return in.Low <= s.Low && s.High <= in.High }

// TestOneMoreGauge is P2.15.
func TestOneMoreGauge(t *testing.T) {
	r := rand.New(rand.NewSource(32))
	for range 2000 {
		c, l := wideChain(r)
		from, to := anyRun(r, c)
		middle := from + r.Intn(to-from+1)
		before, _ := chain.Run(c, l, from, to)
		links, _ := chain.Links(c, l)
		one, _ := chain.Run(c, l, from, middle)
		other, _ := chain.Run(c, l, middle, to)
		if !lies(before, span(one.Low+other.Low, one.High+other.High)) {
			t.Fatalf("Run(%+v, %v) from %d by %d to %d = %v, of %v and %v", c, l, from, middle, to, before, one, other)
		}
		more := append(slices.Clone(l), anyGauges(r, c, 1, true)...)
		behind, e := chain.Run(c, more, from, to)
		if e == api.ErrNone {
			continue
		}
		if e != api.OK || !lies(behind, before) {
			t.Fatalf("Run(%+v, %v, %d, %d) = %v, with one more %v, %d", c, more, from, to, before, behind, e)
		}
		narrower, _ := chain.Links(c, more)
		for i := range links {
			if !lies(narrower[i], links[i]) {
				t.Fatalf("Links(%+v, %v) = %v, with one less %v", c, more, narrower, links)
			}
		}
	}
}

func without(l []int, i int) []int { return slices.Delete(slices.Clone(l), i, i+1) }

// TestNoneCanBeLeftOut is P2.16.
func TestNoneCanBeLeftOut(t *testing.T) {
	r := rand.New(rand.NewSource(33))
	clashes, reasons := 0, 0
	for range 1500 {
		c, _ := wideChain(r)
		l := anyGauges(r, c, r.Intn(20), r.Intn(2) == 0)
		if which, e := chain.Conflict(c, l); e == api.OK {
			clashes++
			if agree(c, pick(l, which)) {
				t.Fatalf("Conflict(%+v, %v) = %v agree", c, l, which)
			}
			for i := range which {
				if !agree(c, pick(l, without(which, i))) {
					t.Fatalf("Conflict(%+v, %v) = %v without %d do not agree", c, l, which, which[i])
				}
			}
		}
		from, to := anyRun(r, c)
		most := (to-from)*c.Limit - r.Intn(60)
		which, e := chain.Why(c, l, from, to, most)
		if e != api.OK {
			continue
		}
		reasons++
		if s, e := chain.Run(c, pick(l, which), from, to); e == api.OK && s.High > most {
			t.Fatalf("Why(%+v, %v, %d, %d, %d) = %v with which it may be %d", c, l, from, to, most, which, s.High)
		}
		for i := range which {
			if s, e := chain.Run(c, pick(l, without(which, i)), from, to); e != api.OK || s.High <= most {
				t.Fatalf("Why(%+v, %v, %d, %d, %d) = %v: %d can be left out", c, l, from, to, most, which, which[i])
			}
		}
	}
	if clashes < 100 || reasons < 200 {
		t.Errorf("%d do not agree, %d have reasons", clashes, reasons)
	}
}

// TestSkewOfBoth is P2.17.
func TestSkewOfBoth(t *testing.T) {
	r := rand.New(rand.NewSource(34))
	for range 500 {
		a, k := wideChain(r)
		b := a
		b.Pitch = 1 + r.Intn(b.Limit)
		l := anyGauges(r, b, r.Intn(8), true)
		every := 1 + r.Intn(a.Links)
		at, most, e := chain.Skew(a, k, b, l, every)
		end, same, f := chain.Skew(b, l, a, k, every)
		if at != end || most != same || e != api.OK || f != api.OK {
			t.Fatalf("Skew(%+v, %v, %+v, %v, %d) = %d, %d, %d, exchanged %d, %d, %d", a, k, b, l, every, at, most, e, end, same, f)
		}
		x, y := someLengths(r, a, k), someLengths(r, b, l)
		for end := every; end <= a.Links; end += every {
			if d := sum(x[:end]) - sum(y[:end]); d > most || -d > most {
				t.Fatalf("Skew(%+v, %v, %+v, %v, %d) = %d, %d, but %v and %v are possible", a, k, b, l, every, at, most, x, y)
			}
		}
	}
}

func someLengths(r *rand.Rand, c api.Chain, l []api.Gauge) []int {
	from, to := anyRun(r, c)
	s, _ := chain.Run(c, l, from, to)
	w, _ := chain.Witness(c, l, from, to, s.Low+r.Intn(s.High-s.Low+1))
	return w
}

// busyPart draws a part with wide rates, uses of many turns, and a history of them, by which the measures are right.
func busyPart(r *rand.Rand) (api.Part, []api.Use, []int) {
	p := api.Part{Worn: r.Intn(1001), Turns: r.Intn(1000001), Age: r.Intn(2000)}
	for range 1 + r.Intn(api.MaxClasses) {
		low := r.Intn(2000)
		p.Rates = append(p.Rates, span(low, low+r.Intn(500)))
	}
	var l []api.Use
	var h []int
	day, wear := 0, 0
	for range r.Intn(12) {
		day += r.Intn(200)
		u := api.Use{Day: day, Turns: r.Intn(100000), Class: r.Intn(len(p.Rates))}
		rate := p.Rates[u.Class]
		wear += u.Turns*rate.Low + r.Intn(u.Turns*(rate.High-rate.Low)+1)
		if wear < 1900000000 && r.Intn(3) == 0 {
			u.Measured, u.Says = true, span(max(0, wear-r.Intn(5000000)), wear+r.Intn(5000000))
		}
		l, h = append(l, u), append(h, wear)
	}
	return p, l, h
}

// TestNoPartBeyondItsLife is P2.18.
func TestNoPartBeyondItsLife(t *testing.T) {
	r := rand.New(rand.NewSource(35))
	planned := 0
	for range 3000 {
		p, l, h := busyPart(r)
		wear, e := chain.Wear(p, l)
		first, f := chain.Beyond(p, l)
		sure, g := chain.Surely(p, l)
		if _, is, b := chain.Refuted(p, l); e != api.OK || f != api.OK || g != api.OK || is || b != api.OK {
			t.Fatalf("%+v, %+v: %d, %d, %d, refuted %v", p, l, e, f, g, is)
		}
		for i := range l {
			if !inside(wear[i], h[i]) {
				t.Fatalf("Wear(%+v, %+v) = %v, but %v is possible", p, l, wear, h)
			}
			if is := beyond(p, l, h, i); is && (first < 0 || i < first) || !is && sure >= 0 && i >= sure {
				t.Fatalf("%+v, %+v: Beyond %d, Surely %d, but %v is possible", p, l, first, sure, h)
			}
		}
		n := r.Intn(len(l) + 1)
		plan := slices.Clone(l[n:])
		for i := range plan {
			plan[i].Measured, plan[i].Says = false, api.Span{}
		}
		last, e := chain.Last(p, l[:n], plan)
		if e != api.OK {
			t.Fatalf("Last(%+v, %+v, %+v): %d", p, l[:n], plan, e)
		}
		if last > 0 && beyond(p, l, h, n+last-1) {
			t.Fatalf("Last(%+v, %+v, %+v) = %d, but %v is possible", p, l[:n], plan, last, h)
		}
		// With Last it is beyond its life in no history, with one use more it is in some.
		if last >= 0 {
			planned++
			within, _ := chain.Beyond(p, slices.Concat(l[:n], plan[:last]))
			over, _ := chain.Beyond(p, slices.Concat(l[:n], plan[:min(last+1, len(plan))]))
			if within != -1 || last < len(plan) && over != n+last {
				t.Fatalf("Last(%+v, %+v, %+v) = %d, Beyond %d, and with one more %d", p, l[:n], plan, last, within, over)
			}
		}
	}
	if planned < 500 {
		t.Errorf("only %d plans", planned)
	}
}

// TestNarrowerParts is P2.19 but for Due.
func TestNarrowerParts(t *testing.T) {
	r := rand.New(rand.NewSource(36))
	narrowed := 0
	for range 3000 {
		p, l, h := busyPart(r)
		before, _ := chain.Wear(p, l)
		if len(l) == 0 {
			continue
		}
		q, k := p, slices.Clone(l)
		if r.Intn(2) == 0 {
			q.Rates = slices.Clone(p.Rates)
			i := r.Intn(len(q.Rates))
			q.Rates[i].Low += r.Intn(q.Rates[i].High - q.Rates[i].Low + 1)
			q.Rates[i].High -= r.Intn(q.Rates[i].High - q.Rates[i].Low + 1)
		} else if i := r.Intn(len(k)); !k[i].Measured && h[i] < 1900000000 {
			k[i].Measured, k[i].Says = true, span(max(0, h[i]-1000), h[i]+r.Intn(1000000))
		}
		behind, e := chain.Wear(q, k)
		if e == api.ErrNone {
			continue
		}
		narrowed++
		for i := range before {
			if e != api.OK || !lies(behind[i], before[i]) {
				t.Fatalf("Wear(%+v, %+v) = %v, but Wear(%+v, %+v) = %v", p, l, before, q, k, behind)
			}
		}
	}
	if narrowed < 1000 {
		t.Errorf("only %d are narrower", narrowed)
	}
}

// TestTurnsMore is P2.19 of Due.
func TestTurnsMore(t *testing.T) {
	r := rand.New(rand.NewSource(37))
	due := 0
	for range 3000 {
		p, l, _ := busyPart(r)
		if n := r.Intn(4); n > 0 {
			l = l[:min(n, len(l))]
		}
		class, day := r.Intn(len(p.Rates)), r.Intn(300)
		if len(l) > 0 {
			day += l[len(l)-1].Day
		}
		after := func(turns int) int {
			use, e := chain.Beyond(p, append(slices.Clone(l), api.Use{Day: day, Turns: turns, Class: class}))
			if e != api.OK {
				t.Fatalf("Beyond(%+v, %+v) with %d more: %d", p, l, turns, e)
			}
			return use
		}
		n, e := chain.Due(p, l, class, day)
		if e == api.ErrNone {
			if after(0) == -1 {
				t.Fatalf("Due(%+v, %+v, %d, %d): none", p, l, class, day)
			}
			continue
		}
		due++
		if e != api.OK || after(n) != -1 || n < api.MaxTurns && after(n+1) == -1 {
			t.Fatalf("Due(%+v, %+v, %d, %d) = %d, %d", p, l, class, day, n, e)
		}
	}
	if due < 500 {
		t.Errorf("only %d can make more", due)
	}
}

// TestAnyChain is P1 for chains: no argument makes a function panic, or return something beside an error, or is changed.
func TestAnyChain(t *testing.T) {
	r := rand.New(rand.NewSource(38))
	numbers := []int{math.MinInt, -1, 0, 1, 2, 23, 24, 25, 100000, 100001, 10000000, 10000001, math.MaxInt}
	any := func() int {
		if r.Intn(4) > 0 {
			return r.Intn(6)
		}
		return numbers[r.Intn(len(numbers))]
	}
	for range 20000 {
		c := api.Chain{Links: any(), Pitch: any(), Limit: any()}
		var l []api.Gauge
		for range r.Intn(4) {
			l = append(l, api.Gauge{From: any(), To: any(), Says: span(any(), any())})
		}
		kept := slices.Clone(l)
		want := chain.Check(c, l)
		for name, e := range chainErrors(c, l, any(), any(), any()) {
			if e < 0 || want != api.OK && e != want || want == api.OK && e != api.OK && e != api.ErrNone && e != api.ErrArg {
				t.Fatalf("%s(%+v, %v): %d, want %d", name, c, l, e, want)
			}
		}
		if !slices.Equal(kept, l) {
			t.Fatalf("the gauges are changed: %v", l)
		}
	}
}

func chainErrors(c api.Chain, l []api.Gauge, x, y, z int) answers {
	out := answers{}
	links, e := chain.Links(c, l)
	out.put("Links", e, len(links) == 0)
	s, e := chain.Run(c, l, x, y)
	out.put("Run", e, s == api.Span{})
	from, most, e := chain.Longest(c, l, x)
	out.put("Longest", e, from == 0 && most == 0)
	w, e := chain.Witness(c, l, x, y, z)
	out.put("Witness", e, len(w) == 0)
	which, e := chain.Conflict(c, l)
	out.put("Conflict", e, len(which) == 0)
	which, e = chain.Why(c, l, x, y, z)
	out.put("Why", e, len(which) == 0)
	at, most, e := chain.Skew(c, l, c, l, x)
	out.put("Skew", e, at == 0 && most == 0)
	return out
}

// TestGaugesBeforeOthers: the errors of a chain and its gauges come before those of the other arguments, too many before one that is not valid.
func TestGaugesBeforeOthers(t *testing.T) {
	for i, x := range []struct {
		c    api.Chain
		l    []api.Gauge
		want api.Errno
	}{
		{api.Chain{}, make([]api.Gauge, 41), api.ErrChain},
		{four(), make([]api.Gauge, 41), api.ErrMany},
		{four(), make([]api.Gauge, 1), api.ErrGauge},
	} {
		for name, e := range chainErrors(x.c, x.l, -1, -2, -3) {
			if e != x.want {
				t.Errorf("%d: %s: %d, want %d", i, name, e, x.want)
			}
		}
	}
}
