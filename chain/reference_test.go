package chain_test

import (
	"math/rand"
	"slices"

	"newel/api"
	"newel/chain"
)

// What follows is the chapter's text once more: all lengths of small chains and all histories of parts are listed, and the answers are picked from the lists.

func sum(l []int) int {
	n := 0
	for _, x := range l {
		n += x
	}
	return n
}

func inside(s api.Span, n int) bool { return s.Low <= n && n <= s.High }

// lengths lists all possible lengths, those with a shorter first link first, and so on.
func lengths(c api.Chain, l []api.Gauge) [][]int {
	var out [][]int
	var extend func(links []int)
	extend = func(links []int) {
		for _, g := range l {
			if g.To == len(links) && !inside(g.Says, sum(links[g.From:g.To])) {
				return
			}
		}
		if len(links) == c.Links {
			out = append(out, slices.Clone(links))
			return
		}
		for n := c.Pitch; n <= c.Limit; n++ {
			extend(append(slices.Clone(links), n))
		}
	}
	extend(nil)
	return out
}

// spanOf is the least span of what value gives for each element of a list that is not empty.
func spanOf(l [][]int, value func([]int) int) api.Span {
	s := api.Span{Low: value(l[0]), High: value(l[0])}
	for _, x := range l {
		s.Low, s.High = min(s.Low, value(x)), max(s.High, value(x))
	}
	return s
}

func refRun(c api.Chain, l []api.Gauge, from, to int) (api.Span, bool) {
	possible := lengths(c, l)
	if len(possible) == 0 {
		return api.Span{}, false
	}
	return spanOf(possible, func(links []int) int { return sum(links[from:to]) }), true
}

// refNeeded takes gauges away one after the other, and keeps those without which it does not hold.
func refNeeded(l []api.Gauge, holds func([]api.Gauge) bool) []int {
	kept := make([]int, len(l))
	for i := range kept {
		kept[i] = i
	}
	for i := range l {
		fewer := slices.DeleteFunc(slices.Clone(kept), func(k int) bool { return k == i })
		if holds(pick(l, fewer)) {
			kept = fewer
		}
	}
	return kept
}

func pick(l []api.Gauge, which []int) []api.Gauge {
	var out []api.Gauge
	for _, i := range which {
		out = append(out, l[i])
	}
	return out
}

func refSkew(a, b [][]int, links, every int) (at, most int) {
	most = -1
	for end := every; end <= links; end += every {
		for _, x := range a {
			for _, y := range b {
				d := sum(x[:end]) - sum(y[:end])
				if d = max(d, -d); d > most {
					at, most = end, d
				}
			}
		}
	}
	return at, most
}

// anyChain draws a chain of which all lengths can be listed.
func anyChain(r *rand.Rand) api.Chain {
	c := api.Chain{Links: 1 + r.Intn(5), Pitch: 1 + r.Intn(6)}
	c.Limit = c.Pitch + r.Intn(4)
	return c
}

// anyGauges draws gauges near to what a chain may be. With fit, some lengths are possible with all of them.
func anyGauges(r *rand.Rand, c api.Chain, many int, fit bool) []api.Gauge {
	links := make([]int, c.Links)
	for i := range links {
		links[i] = c.Pitch + r.Intn(c.Limit-c.Pitch+1)
	}
	var l []api.Gauge
	for range many {
		g := api.Gauge{From: r.Intn(c.Links)}
		g.To = g.From + 1 + r.Intn(c.Links-g.From)
		n := sum(links[g.From:g.To])
		if !fit && r.Intn(3) == 0 {
			n = max(0, n+r.Intn(5)-2)
		}
		g.Says = api.Span{Low: max(0, n-r.Intn(3)), High: n + r.Intn(3)}
		l = append(l, g)
	}
	return l
}

// histories lists all possible histories of uses.
func histories(p api.Part, l []api.Use) [][]int {
	out := [][]int{nil}
	for _, u := range l {
		var next [][]int
		for _, h := range out {
			wear := 0
			if len(h) > 0 {
				wear = h[len(h)-1]
			}
			for add := u.Turns * p.Rates[u.Class].Low; add <= u.Turns*p.Rates[u.Class].High; add++ {
				if !u.Measured || inside(u.Says, wear+add) {
					next = append(next, append(slices.Clone(h), wear+add))
				}
			}
		}
		out = next
	}
	return out
}

func refRefuted(p api.Part, l []api.Use) (int, bool) {
	for i := range l {
		if len(histories(p, l[:i+1])) == 0 {
			return i, true
		}
	}
	return 0, false
}

// beyond reports whether a part is beyond its life behind a use in a history.
func beyond(p api.Part, l []api.Use, h []int, use int) bool {
	turns := 0
	for _, u := range l[:use+1] {
		turns += u.Turns
	}
	return h[use] > p.Worn*1000000 || turns > p.Turns || l[use].Day > p.Age
}

// refFirst returns the first use behind which the part is beyond its life in some history (every: in each one).
func refFirst(p api.Part, l []api.Use, every bool) int {
	possible := histories(p, l)
	for use := range l {
		is := func(h []int) bool { return beyond(p, l, h, use) }
		not := func(h []int) bool { return !is(h) }
		if !every && slices.ContainsFunc(possible, is) || every && !slices.ContainsFunc(possible, not) {
			return use
		}
	}
	return -1
}

// refLast tries one use of the plan more as long as no history has the part beyond its life.
func refLast(p api.Part, l, plan []api.Use) int {
	n := -1
	for n < len(plan) && bears(p, slices.Concat(l, plan[:n+1])) {
		n++
	}
	return n
}

// bears reports whether the part is beyond its life behind the last use in no history.
func bears(p api.Part, l []api.Use) bool {
	return len(l) == 0 || !slices.ContainsFunc(histories(p, l), func(h []int) bool { return beyond(p, l, h, len(l)-1) })
}

// anyPart draws a part of which all histories of a few turns can be listed, and which may be worn out by them.
func anyPart(r *rand.Rand) api.Part {
	p := api.Part{Worn: r.Intn(3), Turns: r.Intn(16), Age: r.Intn(60)}
	if r.Intn(2) == 0 {
		p.Turns, p.Age = p.Turns+100, p.Age+100
	}
	for range 1 + r.Intn(api.MaxClasses) {
		low := r.Intn(9) * 100000
		p.Rates = append(p.Rates, api.Span{Low: low, High: low + r.Intn(3)})
	}
	return p
}

// anyUses draws uses from a day on. With measures, some of them are measured, mostly near to what the wear may be.
func anyUses(r *rand.Rand, p api.Part, many, day int, measures bool) []api.Use {
	var l []api.Use
	wear := 0
	for range many {
		day += r.Intn(12)
		u := api.Use{Day: day, Turns: r.Intn(3), Class: r.Intn(len(p.Rates))}
		rate := p.Rates[u.Class]
		wear += u.Turns*rate.Low + r.Intn(u.Turns*(rate.High-rate.Low)+1)
		if measures && r.Intn(2) == 0 {
			n := wear
			if r.Intn(4) == 0 {
				n = max(0, n+r.Intn(7)-3)
			}
			u.Measured, u.Says = true, api.Span{Low: max(0, n-r.Intn(3)), High: n + r.Intn(3)}
		}
		l = append(l, u)
	}
	return l
}

// ends lists how far each end may lie behind the end from, at the most, by shortest ways (Bellman and Ford), for chains too wide to list their lengths; false if the gauges do not agree.
func ends(c api.Chain, l []api.Gauge, from int) ([]int, bool) {
	type edge struct{ from, to, most int }
	var edges []edge
	for i := range c.Links {
		edges = append(edges, edge{i, i + 1, c.Limit}, edge{i + 1, i, -c.Pitch})
	}
	for _, g := range l {
		edges = append(edges, edge{g.From, g.To, g.Says.High}, edge{g.To, g.From, -g.Says.Low})
	}
	far := make([]int, c.Links+1)
	for i := range far {
		far[i] = 1 << 50
	}
	far[from] = 0
	for range c.Links {
		for _, e := range edges {
			far[e.to] = min(far[e.to], far[e.from]+e.most)
		}
	}
	for _, e := range edges {
		if far[e.from]+e.most < far[e.to] {
			return nil, false
		}
	}
	return far, true
}

func span(low, high int) api.Span { return api.Span{Low: low, High: high} }

// agree reports whether lengths are possible, as the package says.
func agree(c api.Chain, l []api.Gauge) bool {
	_, e := chain.Links(c, l)
	return e != api.ErrNone
}

// answers are the errors of functions by their names. A result beside an error counts as an error of its own.
type answers map[string]api.Errno

func (a answers) put(name string, e api.Errno, zero bool) {
	if e != api.OK && !zero {
		e = -1
	}
	a[name] = e
}
