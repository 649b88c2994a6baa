package circuit_test

import (
	"math/rand"
	"slices"

	"newel/api"
)

// What follows is the chapter's text once more, in other ways than the package's: wires are gone through from the last one to the first, sets are lists, and lists of trials are made in the order in which they are wanted.

func list(set int) []int {
	var l []int
	for i := 0; set > 0; i++ {
		if set%2 == 1 {
			l = append(l, i)
		}
		set /= 2
	}
	return l
}

func setOf(l []int) int {
	n := 0
	for _, i := range l {
		n += 1 << i
	}
	return n
}

func overlap(a, b []int) bool {
	return slices.ContainsFunc(a, func(i int) bool { return slices.Contains(b, i) })
}

func refCheck(c api.Circuit) bool {
	if c.Hazards < 1 || c.Hazards > 8 || len(c.Switches) < 1 || len(c.Switches) > 12 || len(c.Wires) < 1 || len(c.Wires) > 24 {
		return false
	}
	for _, n := range c.Switches {
		if n < 0 || n >= 1<<c.Hazards {
			return false
		}
	}
	var used []int
	for i, w := range c.Wires {
		switch {
		case w.Kind == 1 && (len(w.Of) != 1 || w.Of[0] < 0 || w.Of[0] >= len(c.Switches)):
			return false
		case w.Kind == 1:
		case w.Kind != 2 && w.Kind != 3, len(w.Of) == 0, len(w.Of) > 8:
			return false
		default:
			for k, n := range w.Of {
				if n <= i || n >= len(c.Wires) || k > 0 && n <= w.Of[k-1] {
					return false
				}
				used = append(used, n)
			}
		}
	}
	slices.Sort(used)
	for i := range max(len(used), len(c.Wires)-1) {
		if i >= len(used) || used[i] != i+1 {
			return false
		}
	}
	return true
}

func refConducts(c api.Circuit, wire int, hazards, closed, open []int) bool {
	does := make([]bool, len(c.Wires))
	for i := len(c.Wires) - 1; i >= 0; i-- {
		all, some := true, false
		for _, n := range c.Wires[i].Of {
			one := false
			if c.Wires[i].Kind != 1 {
				one = does[n]
			} else if !slices.Contains(open, n) {
				one = slices.Contains(closed, n) || !overlap(list(c.Switches[n]), hazards)
			}
			all, some = all && one, some || one
		}
		does[i] = all
		if c.Wires[i].Kind == 3 {
			does[i] = some
		}
	}
	return does[wire]
}

func refRuns(c api.Circuit, hazards, closed []int) bool {
	return refConducts(c, 0, hazards, closed, nil)
}

func refDangerous(c api.Circuit, closed ...int) bool { return len(refWeak(c, closed)) > 0 }

func refWeak(c api.Circuit, closed []int) []int {
	var l []int
	for h := range c.Hazards {
		if refRuns(c, []int{h}, closed) {
			l = append(l, h)
		}
	}
	return l
}

func refCritical(c api.Circuit) []int {
	var l []int
	for sw := range c.Switches {
		if refDangerous(c, sw) {
			l = append(l, sw)
		}
	}
	return l
}

func refPairs(c api.Circuit) [][2]int {
	var l [][2]int
	for a := range c.Switches {
		for b := a + 1; b < len(c.Switches); b++ {
			if refDangerous(c, a, b) && !refDangerous(c, a) && !refDangerous(c, b) {
				l = append(l, [2]int{a, b})
			}
		}
	}
	return l
}

func refLeast(c api.Circuit, hazard int) int {
	for many := range len(c.Switches) + 1 {
		for closed := range 1 << len(c.Switches) {
			if l := list(closed); len(l) == many && refRuns(c, []int{hazard}, l) {
				return closed
			}
		}
	}
	return -1
}

func refShow(c api.Circuit, t api.Trial, stuck ...int) bool {
	return refConducts(c, t.Wire, list(t.Hazards), stuck, nil) && !refConducts(c, t.Wire, list(t.Hazards), nil, nil)
}

func refShows(c api.Circuit, t api.Trial) []int {
	var l []int
	for sw := range c.Switches {
		if refShow(c, t, sw) {
			l = append(l, sw)
		}
	}
	return l
}

// refShown lists what some trials show.
func refShown(c api.Circuit, l []api.Trial, which []int) []int {
	var out []int
	for _, i := range which {
		out = append(out, refShows(c, l[i])...)
	}
	slices.Sort(out)
	return slices.Compact(out)
}

func pick(l []api.Trial, which []int) []api.Trial {
	var out []api.Trial
	for _, i := range which {
		out = append(out, l[i])
	}
	return out
}

func numbers(many int) []int {
	l := make([]int, many)
	for i := range l {
		l[i] = i
	}
	return l
}

func refBlind(c api.Circuit, l []api.Trial) []int {
	seen := refShown(c, l, numbers(len(l)))
	return slices.DeleteFunc(numbers(len(c.Switches)), func(sw int) bool { return slices.Contains(seen, sw) })
}

// choose calls with each list of so many numbers from first up to below end, in order, until it returns true.
func choose(first, end, many int, head []int, call func([]int) bool) bool {
	if many == 0 {
		return call(head)
	}
	for n := first; n < end; n++ {
		if choose(n+1, end, many-1, append(slices.Clone(head), n), call) {
			return true
		}
	}
	return false
}

func refFewest(c api.Circuit, l []api.Trial) []int {
	all := refShown(c, l, numbers(len(l)))
	var out []int
	for many := range len(l) + 1 {
		if choose(0, len(l), many, nil, func(which []int) bool {
			out = which
			return slices.Equal(refShown(c, l, which), all)
		}) {
			break
		}
	}
	return out
}

func refCheckRota(c api.Circuit, l []api.Trial, r api.Rota) (sw, night int, is bool) {
	shown := make([][]int, len(r.Nights))
	for i, which := range r.Nights {
		shown[i] = refShown(c, l, which)
	}
	for sw := range c.Switches {
		since := 0 // nights in which it has not been tried; two gaps and two rounds show each start
		for n := range 2*len(shown) + 2*r.Gap {
			since++
			if slices.Contains(shown[n%len(shown)], sw) {
				since = 0
			}
			if since == r.Gap {
				return sw, n + 1 - r.Gap, false
			}
		}
	}
	return 0, 0, true
}

// asRota is what Rota returns, as a rota.
func asRota(trials []int, gap int) api.Rota {
	r := api.Rota{Gap: gap}
	for _, n := range trials {
		if n < 0 {
			r.Nights = append(r.Nights, nil)
		} else {
			r.Nights = append(r.Nights, []int{n})
		}
	}
	return r
}

func refRota(c api.Circuit, l []api.Trial, nights, gap int) []int {
	var found []int
	var fill func(head []int, left int) bool
	fill = func(head []int, left int) bool {
		if len(head) == nights {
			found = head
			_, _, is := refCheckRota(c, l, asRota(head, gap))
			return left == 0 && is
		}
		for n := -1; n < len(l); n++ {
			made := left
			if n >= 0 {
				made--
			}
			if made >= 0 && fill(append(slices.Clone(head), n), made) {
				return true
			}
		}
		return false
	}
	for many := range nights + 1 {
		if fill(nil, many) {
			return found
		}
	}
	return nil
}

func refPlay(c api.Circuit, l []api.Trial, r api.Rota, u []api.Upset) (stuck, passed []int) {
	var now []int
	for night := range 1001 {
		busy := false
		for _, x := range u {
			if x.Night == night && x.Kind == api.Stuck {
				now = append(now, x.Number)
			}
		}
		for _, n := range r.Nights[night%len(r.Nights)] {
			if refShow(c, l[n], now...) {
				now = nil
			}
		}
		for i, x := range u {
			if x.Night != night {
				continue
			}
			busy = true
			if x.Kind == api.Danger && refRuns(c, list(x.Number), now) {
				passed = append(passed, i)
			}
		}
		if busy {
			slices.Sort(now)
			now = slices.Compact(now)
			stuck = append(stuck, setOf(now))
		}
	}
	return stuck, passed
}

// anyCircuit draws a circuit that is valid.
func anyCircuit(r *rand.Rand, hazards, switches, wires int) api.Circuit {
	c := api.Circuit{Hazards: 1 + r.Intn(hazards), Wires: make([]api.Wire, 1+r.Intn(wires))}
	for range 1 + r.Intn(switches) {
		c.Switches = append(c.Switches, r.Intn(1<<c.Hazards))
	}
	for i := range len(c.Wires) - 1 {
		in := r.Intn(i + 1)
		for len(c.Wires[in].Of) == 8 {
			in = (in + 1) % (i + 1)
		}
		c.Wires[in].Of = append(c.Wires[in].Of, i+1)
	}
	for i, w := range c.Wires {
		c.Wires[i].Kind = 2 + r.Intn(2)
		if len(w.Of) == 0 {
			c.Wires[i] = api.Wire{Kind: 1, Of: []int{r.Intn(len(c.Switches))}}
		}
	}
	return c
}

func anyTrials(r *rand.Rand, c api.Circuit, many int) []api.Trial {
	var l []api.Trial
	for range r.Intn(many + 1) {
		l = append(l, api.Trial{Hazards: r.Intn(1 << c.Hazards), Wire: r.Intn(len(c.Wires))})
	}
	return l
}

// oneEach draws trials that show much: of the wires that are made of one switch, with a hazard that opens it.
func oneEach(r *rand.Rand, c api.Circuit, many int) []api.Trial {
	var l []api.Trial
	for i, w := range c.Wires {
		if w.Kind == api.Single && len(l) < many && c.Switches[w.Of[0]] > 0 {
			l = append(l, api.Trial{Hazards: c.Switches[w.Of[0]], Wire: i})
		}
	}
	r.Shuffle(len(l), func(i, k int) { l[i], l[k] = l[k], l[i] })
	return l
}

func anyRota(r *rand.Rand, trials, nights int) api.Rota {
	rota := api.Rota{Gap: 1 + r.Intn(nights+2)}
	for range 1 + r.Intn(nights) {
		var l []int
		for n := range trials {
			if r.Intn(3) == 0 {
				l = append(l, n)
			}
		}
		rota.Nights = append(rota.Nights, l)
	}
	return rota
}

func anyUpsets(r *rand.Rand, c api.Circuit, many, apart int) []api.Upset {
	var l []api.Upset
	night, danger := 0, false
	for range r.Intn(many + 1) {
		if next := r.Intn(apart); next > 0 {
			night, danger = night+next, false
		}
		if danger = danger || r.Intn(2) == 0; danger {
			l = append(l, api.Upset{Night: night, Kind: api.Danger, Number: 1 + r.Intn(1<<c.Hazards-1)})
		} else {
			l = append(l, api.Upset{Night: night, Kind: api.Stuck, Number: r.Intn(len(c.Switches))})
		}
	}
	return l
}
