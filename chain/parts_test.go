package chain_test

import (
	"math"
	"math/rand"
	"slices"
	"testing"

	"newel/api"
	"newel/chain"
)

// part and uses are the part P and the uses of the chapter's examples.
func part() api.Part {
	return api.Part{Rates: []api.Span{span(1, 2), span(5, 10)}, Worn: 1, Turns: 300000, Age: 1000}
}

func uses() []api.Use {
	return []api.Use{{Day: 100, Turns: 100000}, measured(400000, 600000)}
}

func measured(low, high int) api.Use {
	return api.Use{Day: 200, Turns: 40000, Class: 1, Measured: true, Says: span(low, high)}
}

func plan() []api.Use {
	return []api.Use{{Day: 300, Turns: 40000, Class: 1}, {Day: 400, Turns: 1000, Class: 1}}
}

func TestCheckPart(t *testing.T) {
	one := []api.Span{{}}
	for i, x := range []struct {
		p    api.Part
		want api.Errno
	}{
		{api.Part{}, api.ErrPart},
		{api.Part{Rates: one}, api.OK},
		{api.Part{Rates: make([]api.Span, 4)}, api.OK},
		{api.Part{Rates: make([]api.Span, 5)}, api.ErrPart},
		{api.Part{Rates: []api.Span{{}, span(1000000, 1000000)}}, api.OK},
		{api.Part{Rates: []api.Span{{}, span(0, 1000001)}}, api.ErrPart},
		{api.Part{Rates: []api.Span{{}, span(-1, 0)}}, api.ErrPart},
		{api.Part{Rates: []api.Span{{}, span(2, 1)}}, api.ErrPart},
		{api.Part{Rates: one, Worn: 1000}, api.OK},
		{api.Part{Rates: one, Worn: 1001}, api.ErrPart},
		{api.Part{Rates: one, Worn: -1}, api.ErrPart},
		{api.Part{Rates: one, Turns: 1000000}, api.OK},
		{api.Part{Rates: one, Turns: 1000001}, api.ErrPart},
		{api.Part{Rates: one, Turns: -1}, api.ErrPart},
		{api.Part{Rates: one, Age: 100000}, api.OK},
		{api.Part{Rates: one, Age: 100001}, api.ErrPart},
		{api.Part{Rates: one, Age: -1}, api.ErrPart},
	} {
		if e := chain.CheckPart(x.p, nil); e != x.want {
			t.Errorf("%d: CheckPart(%+v) = %d, want %d", i, x.p, e, x.want)
		}
		if x.want == api.OK {
			x.want = api.ErrUse
		}
		if e := chain.CheckPart(x.p, make([]api.Use, 41)); e != x.want {
			t.Errorf("%d: CheckPart(%+v) with too many uses = %d, want %d", i, x.p, e, x.want)
		}
	}
}

func TestCheckUses(t *testing.T) {
	for i, x := range []struct {
		l    []api.Use
		want api.Errno
	}{
		{nil, api.OK},
		{[]api.Use{}, api.OK},
		{uses(), api.OK},
		{[]api.Use{uses()[0], measured(600001, 700000)}, api.OK}, // CheckPart never returns ErrNone
		{make([]api.Use, 40), api.OK},
		{make([]api.Use, 41), api.ErrUse},
		{[]api.Use{{Day: 100000}}, api.OK},
		{[]api.Use{{Day: 100001}}, api.ErrUse},
		{[]api.Use{{Day: -1}}, api.ErrUse},
		{[]api.Use{{Day: 5}, {Day: 5}, {Day: 6}}, api.OK},
		{[]api.Use{{Day: 5}, {Day: 4}}, api.ErrUse},
		{[]api.Use{{Turns: 1000000}}, api.OK},
		{[]api.Use{{Turns: 1000001}}, api.ErrUse},
		{[]api.Use{{Turns: -1}}, api.ErrUse},
		{[]api.Use{{Class: 1}}, api.OK},
		{[]api.Use{{Class: 2}}, api.ErrUse},
		{[]api.Use{{Class: -1}}, api.ErrUse},
		{[]api.Use{{Measured: true}}, api.OK},
		{[]api.Use{measured(2000000000, 2000000000)}, api.OK},
		{[]api.Use{measured(0, 2000000001)}, api.ErrUse},
		{[]api.Use{measured(-1, 0)}, api.ErrUse},
		{[]api.Use{measured(2, 1)}, api.ErrUse},
		{[]api.Use{{Says: span(0, 1)}}, api.ErrUse},
		{[]api.Use{{Says: span(1, 1)}}, api.ErrUse},
		{[]api.Use{{}, {Says: span(-1, 0)}}, api.ErrUse},
	} {
		if e := chain.CheckPart(part(), x.l); e != x.want {
			t.Errorf("%d: CheckPart(%+v) = %d, want %d", i, x.l, e, x.want)
		}
	}
}

func TestWear(t *testing.T) {
	exact := api.Part{Rates: []api.Span{span(3, 5)}, Worn: 1000}
	use := func(turns int) api.Use { return api.Use{Turns: turns} }
	says := func(turns, low, high int) api.Use {
		return api.Use{Turns: turns, Measured: true, Says: span(low, high)}
	}
	for i, x := range []struct {
		p    api.Part
		l    []api.Use
		want []api.Span
		e    api.Errno
	}{
		{part(), uses(), []api.Span{span(100000, 200000), span(400000, 600000)}, api.OK},
		{part(), nil, nil, api.OK},
		{part(), []api.Use{uses()[0], measured(600001, 700000)}, nil, api.ErrNone},
		{exact, []api.Use{use(10), use(0), use(1)}, []api.Span{span(30, 50), span(30, 50), span(33, 55)}, api.OK},
		{exact, []api.Use{use(10), says(10, 0, 62)}, []api.Span{span(30, 32), span(60, 62)}, api.OK},
		{exact, []api.Use{use(10), says(10, 99, 200)}, []api.Span{span(49, 50), span(99, 100)}, api.OK},
		{exact, []api.Use{use(10), use(10), says(10, 91, 92)}, []api.Span{span(30, 32), span(60, 62), span(91, 92)}, api.OK},
		{exact, []api.Use{says(10, 40, 41), use(10), says(0, 90, 90)}, []api.Span{span(40, 41), span(90, 90), span(90, 90)}, api.OK},
		{exact, []api.Use{says(0, 0, 0)}, []api.Span{{}}, api.OK},
		{exact, []api.Use{says(1, 0, 0)}, nil, api.ErrNone}, // measured as 0 is not the same as not measured
		{exact, []api.Use{says(1, 6, 9), use(5)}, nil, api.ErrNone},
	} {
		if l, e := chain.Wear(x.p, x.l); e != x.e || !slices.Equal(l, x.want) {
			t.Errorf("%d: Wear = %v, %d, want %v, %d", i, l, e, x.want, x.e)
		}
	}
	worst := api.Part{Rates: []api.Span{span(1000000, 1000000)}}
	l, e := chain.Wear(worst, slices.Repeat([]api.Use{{Turns: 1000000}}, 40))
	if e != api.OK || l[39] != span(40000000000000, 40000000000000) {
		t.Errorf("Wear of all there may be = %v, %d", l, e)
	}
}

func TestRefuted(t *testing.T) {
	first := uses()[0]
	for i, x := range []struct {
		l   []api.Use
		use int
		is  bool
	}{
		{uses(), 0, false},
		{nil, 0, false},
		{[]api.Use{first, measured(600000, 700000)}, 0, false},
		{[]api.Use{first, measured(600001, 700000)}, 1, true},
		{[]api.Use{first, measured(0, 299999)}, 1, true},
		{[]api.Use{first, measured(0, 300000)}, 0, false},
		{[]api.Use{first, measured(0, 299999), measured(0, 0)}, 1, true},
		{[]api.Use{measured(0, 0), measured(0, 0)}, 0, true},
		{[]api.Use{measured(400000, 400000), measured(400000, 599999)}, 1, true},
		{[]api.Use{measured(400000, 400000), measured(400000, 600000)}, 0, false},
	} {
		if use, is, e := chain.Refuted(part(), x.l); use != x.use || is != x.is || e != api.OK {
			t.Errorf("%d: Refuted = %d, %v, %d, want %d, %v", i, use, is, e, x.use, x.is)
		}
	}
}

func TestBeyond(t *testing.T) {
	p := part()
	worn := api.Use{Day: 300, Turns: 40000, Class: 1}
	more := worn
	more.Turns++
	later := measured(600000, 800000)
	later.Turns = 0
	for i, x := range []struct {
		l              []api.Use
		beyond, surely int
		e              api.Errno
	}{
		{uses(), -1, -1, api.OK},
		{nil, -1, -1, api.OK},
		{append(uses(), worn), -1, -1, api.OK},
		{append(uses(), worn, api.Use{Day: 300, Turns: 1, Class: 1}), 3, -1, api.OK},
		{append(uses(), worn, worn, worn), 3, -1, api.OK}, // at the least 1000000 behind the last one
		{append(uses(), worn, worn, more), 3, 4, api.OK},
		{[]api.Use{{Turns: 100001, Class: 1}, later}, -1, -1, api.OK}, // the later measure rules it out
		{[]api.Use{{Turns: 100001, Class: 1}}, 0, -1, api.OK},
		{[]api.Use{{Turns: 200001, Class: 1}}, 0, 0, api.OK},
		{[]api.Use{{Turns: 200000, Class: 1}}, 0, -1, api.OK},
		{[]api.Use{{Day: 1000}, {Day: 1001}}, 1, 1, api.OK},
		{[]api.Use{{Turns: 300000}, {Turns: 0}, {Turns: 1}}, 2, 2, api.OK},
		{[]api.Use{uses()[0], measured(600001, 700000)}, 0, 0, api.ErrNone},
	} {
		if use, e := chain.Beyond(p, x.l); use != x.beyond || e != x.e {
			t.Errorf("%d: Beyond = %d, %d, want %d, %d", i, use, e, x.beyond, x.e)
		}
		if use, e := chain.Surely(p, x.l); use != x.surely || e != x.e {
			t.Errorf("%d: Surely = %d, %d, want %d, %d", i, use, e, x.surely, x.e)
		}
	}
}

func TestLast(t *testing.T) {
	tired := append(uses(), api.Use{Day: 200, Turns: 60001, Class: 1})
	refuted := []api.Use{uses()[0], measured(600001, 700000)}
	probe := measured(0, 1000000)
	probe.Day = 300
	odd := plan()
	odd[1].Says = span(0, 1)
	for i, x := range []struct {
		l, plan []api.Use
		want    int
		e       api.Errno
	}{
		{uses(), plan(), 1, api.OK},
		{uses(), plan()[:1], 1, api.OK},
		{uses(), nil, 0, api.OK},
		{nil, nil, 0, api.OK},
		{nil, plan(), 2, api.OK},
		{nil, []api.Use{{Day: 1001}}, 0, api.OK},
		{uses(), plan()[1:], 1, api.OK},
		{uses(), []api.Use{{Day: 300, Turns: 160001}}, 0, api.OK},
		{tired, plan(), -1, api.OK},
		{tired, nil, -1, api.OK},
		{append(tired, api.Use{Day: 200}), plan(), -1, api.OK}, // beyond its life two uses before the plan
		{refuted, plan(), 0, api.ErrNone},
		{refuted, nil, 0, api.ErrNone},
		{refuted, []api.Use{probe}, 0, api.ErrArg},
		{uses(), []api.Use{probe}, 0, api.ErrArg},
		{uses(), []api.Use{probe, {Day: 1}}, 0, api.ErrUse}, // errors of all uses stand before ErrArg
		{uses(), []api.Use{{Day: 199}}, 0, api.ErrUse},
		{uses(), odd, 0, api.ErrUse},
		{make([]api.Use, 20), make([]api.Use, 20), 20, api.OK},
		{make([]api.Use, 20), make([]api.Use, 21), 0, api.ErrUse},
	} {
		if n, e := chain.Last(part(), x.l, x.plan); n != x.want || e != x.e {
			t.Errorf("%d: Last = %d, %d, want %d, %d", i, n, e, x.want, x.e)
		}
	}
	if n, e := chain.Last(api.Part{}, nil, []api.Use{probe}); n != 0 || e != api.ErrPart {
		t.Errorf("Last of no part = %d, %d", n, e)
	}
}

func TestDue(t *testing.T) {
	still := api.Part{Rates: []api.Span{{}, span(0, 1)}, Turns: 1000000, Age: 1000}
	refuted := []api.Use{uses()[0], measured(600001, 700000)}
	for i, x := range []struct {
		p          api.Part
		l          []api.Use
		class, day int
		want       int
		e          api.Errno
	}{
		{part(), uses(), 0, 1000, 160000, api.OK},
		{part(), uses(), 1, 1000, 40000, api.OK},
		{part(), uses(), 0, 200, 160000, api.OK},
		{part(), uses(), 0, 1001, 0, api.ErrNone},
		{part(), uses(), 0, 199, 0, api.ErrArg},
		{part(), uses(), 0, 100000, 0, api.ErrNone},
		{part(), uses(), 0, 100001, 0, api.ErrArg},
		{part(), uses(), 2, 1000, 0, api.ErrArg},
		{part(), uses(), -1, 1000, 0, api.ErrArg},
		{part(), refuted, 2, 1000, 0, api.ErrArg},
		{part(), refuted, 1, 1000, 0, api.ErrNone},
		{part(), nil, 0, 0, 300000, api.OK},
		{part(), nil, 1, 0, 100000, api.OK},
		{part(), nil, 1, -1, 0, api.ErrArg},
		{part(), []api.Use{{Turns: 300000}}, 0, 0, 0, api.OK},
		{part(), []api.Use{{Turns: 300001}}, 0, 0, 0, api.ErrNone},
		{part(), []api.Use{{Turns: 100000, Class: 1}}, 0, 0, 0, api.OK},
		{part(), []api.Use{{Turns: 100001, Class: 1}}, 0, 0, 0, api.ErrNone},
		{part(), []api.Use{{Turns: 99999, Class: 1}}, 1, 0, 1, api.OK},
		{part(), []api.Use{{Turns: 0}, {Turns: 499997 / 2}}, 1, 0, 50000, api.OK},
		{part(), []api.Use{{Turns: 249999}}, 0, 0, 50001, api.OK},
		{part(), make([]api.Use, 40), 0, 0, 300000, api.OK}, // the turns are no use of their own
		{part(), make([]api.Use, 41), 9, 0, 0, api.ErrUse},
		{api.Part{}, make([]api.Use, 41), 9, 0, 0, api.ErrPart},
		{still, nil, 0, 1000, 1000000, api.OK}, // what does not wear makes all its turns
		{still, nil, 1, 1000, 0, api.OK},
	} {
		if n, e := chain.Due(x.p, x.l, x.class, x.day); n != x.want || e != x.e {
			t.Errorf("%d: Due = %d, %d, want %d, %d", i, n, e, x.want, x.e)
		}
	}
}

func TestPartsAreAsAllHistoriesSay(t *testing.T) {
	r := rand.New(rand.NewSource(21))
	var seen [4]int
	for range 4000 {
		p := anyPart(r)
		l := anyUses(r, p, r.Intn(6), 0, true)
		possible := histories(p, l)
		use, is := refRefuted(p, l)
		if n, b, e := chain.Refuted(p, l); n != use || b != is || e != api.OK {
			t.Fatalf("Refuted(%+v, %+v) = %d, %v, %d, want %d, %v", p, l, n, b, e, use, is)
		}
		wear, e := chain.Wear(p, l)
		first, f := chain.Beyond(p, l)
		sure, g := chain.Surely(p, l)
		if len(possible) == 0 {
			seen[0]++
			if e != api.ErrNone || f != api.ErrNone || g != api.ErrNone || len(wear) > 0 || first != 0 || sure != 0 {
				t.Fatalf("%+v, %+v: Wear %v, %d, Beyond %d, %d, Surely %d, %d", p, l, wear, e, first, f, sure, g)
			}
			continue
		}
		for i := range l {
			if want := spanOf(possible, func(h []int) int { return h[i] }); len(wear) != len(l) || wear[i] != want || e != api.OK {
				t.Fatalf("Wear(%+v, %+v) = %v, %d, want %v behind %d", p, l, wear, e, want, i)
			}
		}
		if want := refFirst(p, l, false); first != want || f != api.OK {
			t.Fatalf("Beyond(%+v, %+v) = %d, %d, want %d", p, l, first, f, want)
		}
		if want := refFirst(p, l, true); sure != want || g != api.OK {
			t.Fatalf("Surely(%+v, %+v) = %d, %d, want %d", p, l, sure, g, want)
		}
		switch {
		case first < 0:
			seen[1]++
		case sure < 0:
			seen[2]++
		case sure > first:
			seen[3]++
		}
	}
	if slices.Min(seen[:]) < 20 {
		t.Errorf("seen: %v", seen)
	}
}

func TestLastIsAsAllHistoriesSay(t *testing.T) {
	r := rand.New(rand.NewSource(22))
	seen := map[int]int{}
	for range 3000 {
		p := anyPart(r)
		l := anyUses(r, p, r.Intn(3), 0, true)
		day := 0
		if len(l) > 0 {
			day = l[len(l)-1].Day
		}
		plan := anyUses(r, p, r.Intn(4), day, false)
		n, e := chain.Last(p, l, plan)
		if len(histories(p, l)) == 0 {
			if n != 0 || e != api.ErrNone {
				t.Fatalf("Last(%+v, %+v, %+v) = %d, %d", p, l, plan, n, e)
			}
			continue
		}
		want := refLast(p, l, plan)
		seen[want]++
		if n != want || e != api.OK {
			t.Fatalf("Last(%+v, %+v, %+v) = %d, %d, want %d", p, l, plan, n, e, want)
		}
	}
	if len(seen) != 5 || min(seen[-1], seen[0], seen[1], seen[2], seen[3]) < 20 {
		t.Errorf("seen: %v", seen)
	}
}

// TestDueIsAsAllHistoriesSay: the turns are asked about as one use more, one by one.
func TestDueIsAsAllHistoriesSay(t *testing.T) {
	r := rand.New(rand.NewSource(23))
	none, some := 0, 0
	for range 3000 {
		p := anyPart(r)
		l := anyUses(r, p, r.Intn(4), 0, true)
		class, day := r.Intn(len(p.Rates)), r.Intn(10)
		if len(l) > 0 {
			day += l[len(l)-1].Day
		}
		after := func(turns int) bool {
			return bears(p, append(slices.Clone(l), api.Use{Day: day, Turns: turns, Class: class}))
		}
		n, e := chain.Due(p, l, class, day)
		if len(histories(p, l)) == 0 || !after(0) {
			none++
			if n != 0 || e != api.ErrNone {
				t.Fatalf("Due(%+v, %+v, %d, %d) = %d, %d", p, l, class, day, n, e)
			}
			continue
		}
		want := 0
		for want < 12 && after(want+1) {
			want++
		}
		if n != want && (want < 12 || n < want) || e != api.OK {
			t.Fatalf("Due(%+v, %+v, %d, %d) = %d, %d, want %d", p, l, class, day, n, e, want)
		}
		if want > 0 && want < 12 {
			some++
		}
	}
	if none < 100 || some < 100 {
		t.Errorf("%d have none, %d have some", none, some)
	}
}

// TestRefusals: the part before the uses, the uses before the other arguments, and nothing beside an error.
func TestRefusals(t *testing.T) {
	r := rand.New(rand.NewSource(24))
	numbers := []int{math.MinInt, -1, 0, 1, 2, 4, 5, 40, 41, 1000, 1001, 100000, 100001, 1000000, 1000001, 2000000000, 2000000001, math.MaxInt}
	any := func() int {
		if r.Intn(4) > 0 {
			return r.Intn(3)
		}
		return numbers[r.Intn(len(numbers))]
	}
	for range 20000 {
		p := api.Part{Worn: any(), Turns: any(), Age: any()}
		for range r.Intn(6) {
			p.Rates = append(p.Rates, span(any(), any()))
		}
		var l []api.Use
		for range r.Intn(4) {
			u := api.Use{Day: any(), Turns: any(), Class: any(), Measured: r.Intn(2) == 0}
			if u.Measured || r.Intn(8) == 0 {
				u.Says = span(any(), any())
			}
			l = append(l, u)
		}
		kept, rates := slices.Clone(l), slices.Clone(p.Rates)
		want := chain.CheckPart(p, l)
		for name, e := range partErrors(p, l, any(), any()) {
			if e < 0 || want != api.OK && e != want || want == api.OK && e != api.OK && e != api.ErrNone && e != api.ErrArg {
				t.Fatalf("%s(%+v, %+v): %d, want %d", name, p, l, e, want)
			}
		}
		if !slices.Equal(kept, l) || !slices.Equal(rates, p.Rates) {
			t.Fatalf("an argument is changed: %+v, %+v", p, l)
		}
	}
}

func partErrors(p api.Part, l []api.Use, class, day int) answers {
	out := answers{}
	wear, e := chain.Wear(p, l)
	out.put("Wear", e, len(wear) == 0)
	use, is, e := chain.Refuted(p, l)
	out.put("Refuted", e, use == 0 && !is)
	use, e = chain.Beyond(p, l)
	out.put("Beyond", e, use == 0)
	use, e = chain.Surely(p, l)
	out.put("Surely", e, use == 0)
	n, e := chain.Last(p, l, nil)
	out.put("Last", e, n == 0)
	n, e = chain.Due(p, l, class, day)
	out.put("Due", e, n == 0)
	return out
}
