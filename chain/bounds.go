package chain

import "newel/api"

// bounds says in its row i and column j how far the end j lies behind the end i, at the most. A number below 0 says that it lies before it, at least so far.
type bounds [api.MaxLinks + 1][api.MaxLinks + 1]int

// bound is one of these.
type bound struct{ from, to, most int }

func within(n, low, high int) bool { return low <= n && n <= high }

func isSpan(s api.Span, most int) bool { return within(s.High, 0, most) && within(s.Low, 0, s.High) }

func checkRun(c api.Chain, l []api.Gauge, from, to int) api.Errno {
	if e := Check(c, l); e != api.OK {
		return e
	}
	if !within(to, 0, c.Links) || !within(from, 0, to) {
		return api.ErrArg
	}
	return api.OK
}

func all(int) bool { return true }

// follow returns the bounds that follow from those gauges of which counts says so, and whether they agree. If they do not, the bounds have no meaning.
func follow(c api.Chain, l []api.Gauge, counts func(gauge int) bool) (b bounds, agree bool) {
	b.links(c)
	for i := range len(l) {
		if counts(i) {
			b.add(l[i].From, l[i].To, l[i].Says)
		}
	}
	// A statement of its own: Go does not say whether a return reads b before or behind a call that changes it.
	agree = b.tighten(c.Links)
	return b, agree
}

// links sets the bounds that the chain has without any gauge.
func (b *bounds) links(c api.Chain) {
	for from := range c.Links + 1 {
		for to := range c.Links + 1 {
			if from < to {
				b[from][to] = (to - from) * c.Limit
			} else {
				b[from][to] = (to - from) * c.Pitch
			}
		}
	}
}

func (b *bounds) add(from, to int, says api.Span) {
	for _, x := range [2]bound{{from, to, says.High}, {to, from, -says.Low}} {
		b[x.from][x.to] = min(b[x.from][x.to], x.most)
	}
}

// tighten lets each bound follow from all others, and reports whether they agree: whether no end lies before itself. It stops at the first one that does, since from there on the numbers would grow without bound.
// Of bounds that agree each one is reached by whole lengths: all sums of bounds are whole.
func (b *bounds) tighten(links int) bool {
	for over := range links + 1 {
		for from := range links + 1 {
			for to := range links + 1 {
				b[from][to] = min(b[from][to], b[from][over]+b[over][to])
			}
		}
		for end := range links + 1 {
			if b[end][end] < 0 {
				return false
			}
		}
	}
	return true
}

func (b *bounds) run(from, to int) api.Span {
	return api.Span{Low: -b[to][from], High: b[from][to]}
}

// needed goes through so many gauges in order, and takes each one away without which it still holds of those that are left. It returns the others.
func needed(many int, holds func(counts func(gauge int) bool) bool) []int {
	gone := make([]bool, many)
	left := func(gauge int) bool { return !gone[gauge] }
	var others []int
	for gauge := range many {
		gone[gauge] = true
		if !holds(left) {
			gone[gauge] = false
			others = append(others, gauge)
		}
	}
	return others
}
